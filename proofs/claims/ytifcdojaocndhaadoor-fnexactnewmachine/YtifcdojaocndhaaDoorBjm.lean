/- What the program answers of a new memory. -/
import Derived.Test.YtifcdojaocndhaaDoorM32
import Derived.Test.YtifcdojaocndhaaDoorMnm
import Derived.Lib.ConvBytes
import Derived.Deep.DeepCutAuto
namespace Go.Proofs.YtifcdojaocndhaaDoor
open Go.ChangeShapes Go.WideShapes Go.ChangeAt Go.RowKit
set_option linter.unusedVariables false
set_option linter.unusedSimpArgs false

set_option maxRecDepth 100000 in
theorem bwhole_impl (p b cap : Nat) (s : ByteArray) (w : World) (hp : w.cell? ⟨p, 0, none⟩ = some (.slice (some ⟨b, 0, none⟩) s.size cap)) (h : ∀ i, i < s.size → w.cell? ⟨b, i, none⟩ = some (.int .u8 (byt s i))) (hl : s.size ≤ 65536) :
    Calls Tryd.prog 78 #[.pointer (some ⟨p, 0, none⟩), .int .i64 64] w fun e w' => e = .returned (.bool (decide (s.size = 64))) ∧ w' = w := by
  replace h := hid h
  by_cases hne : s.size = 64
  · have hne2 : ((s.size : Int) != 64) = false := by simp; omega
    rw [decide_eq_true hne]
    replace hne := hid hne
    go_enter Tryd.func78, Tryd.ntmps78
    go_wp2
    go_loop [19] (fun i => ∃ k : Nat, k ≤ s.size ∧ i = .int .i64 k) (fun i => s.size - (intOf i).toNat)
    case atStart => exact ⟨0, by omega, rfl⟩
    case round =>
      obtain ⟨k, hk, rfl⟩ := hrel
      by_cases hlt : k < s.size
      · have c1 := h.out k hlt
        have hbd := byt_bd s k
        have hb : inB (byt s k) 0 255 = true := in_yes hbd.1 hbd.2
        have hwr : IntKind.i64.wrap (byt s k) = byt s k := by rw [IntKind.wrap_i64]; omega
        generalize byt s k = z at *
        go_wp2_with (go_at_call 68; refine (byte_impl _ _).mono ?_; rintro e w' ⟨rfl, rfl⟩; rw [hb])
        go_round
        case rel => exact ⟨k + 1, by omega, by go_num⟩
        case measure => simp [intOf]; omega
      · obtain rfl : k = s.size := by omega
        go_wp2
        go_ret
        exact ⟨rfl, rfl⟩
  · have hne2 : ((s.size : Int) != 64) = true := by simp; omega
    rw [decide_eq_false hne]
    clear hne
    go_enter Tryd.func78, Tryd.ntmps78
    go_wp2
    go_ret
    exact ⟨rfl, rfl⟩
set_option maxRecDepth 100000 in
theorem bcopied_impl (p b cap : Nat) (s : ByteArray) (w : World) (hp : w.cell? ⟨p, 0, none⟩ = some (.slice (some ⟨b, 0, none⟩) s.size cap)) (h : ∀ i, i < s.size → w.cell? ⟨b, i, none⟩ = some (.int .u8 (byt s i))) (hl : s.size ≤ 65536) :
    Calls Tryd.prog 79 #[.pointer (some ⟨p, 0, none⟩)] w fun e w' => ∃ r, e = .returned (.pointer (some ⟨r + 1, 0, none⟩)) ∧ r = w.heap.size ∧ Blk w' (r + 1) #[.slice (some ⟨r, 0, none⟩) s.size s.size] ∧ RowO w' r (.slice (some ⟨r, 0, none⟩) s.size s.size) (romL s) ∧ Below w.heap.size w w' := by
  replace h := hid h
  have hpl := World.block_lt_of_cell? w _ hp
  dsimp only at hpl
  have hmk := fun W => run_make_row' (P := Tryd.prog) 27 3 (.int .i64 0) 8 Tryd.underlying27 infoM rfl .i64 .i64 s.size (by omega) (by omega) W
  have h0 : Hid (RowO (w.alloc (.cells (madeCells #[.int .i64 0] s.size) 3)) w.heap.size (.slice (some ⟨w.heap.size, 0, none⟩) s.size s.size) (cpL (romL s) 0)) := by
    have := cpL_made w (romL s) 3
    rw [romL_len] at this
    exact this
  have hall : Hid (cpL (romL s) s.size = romL s) := by
    have := cpL_all (romL s)
    rw [romL_len] at this
    exact this
  generalize madeCells #[.int .i64 0] s.size = MC at *
  go_enter Tryd.func79, Tryd.ntmps79
  go_wp2
  clear hmk
  go_loopw [17] (fun i wr => ∃ k : Nat, k ≤ s.size ∧ i = .int .i64 k ∧ RowO wr w.heap.size (.slice (some ⟨w.heap.size, 0, none⟩) s.size s.size) (cpL (romL s) k) ∧ Below w.heap.size w wr ∧ wr.heap.size = w.heap.size + 1) (fun i _ => s.size - (intOf i).toNat)
  case atStart => exact ⟨0, by omega, rfl, h0.out, (Below.refl _ _).alloc (Nat.le_refl _) _, by simp⟩
  case round =>
    obtain ⟨k, hk, rfl, hM, hB, hsz⟩ := hrel
    replace hsz := hid hsz
    clear h0 hp hpl
    by_cases hlt : k < s.size
    · have c1 := h.out k hlt
      have hb := World.block_lt_of_cell? w _ c1
      have c2 : wr.cell? ⟨b, k, none⟩ = some (.int .u8 (byt s k)) := by rw [hB.cell (p := ⟨b, k, none⟩) hb]; exact c1
      have hx := hM.cell k (by rw [cpL_len, romL_len]; exact hlt)
      have hfr := hM.frozen k
      have hbd := byt_bd s k
      have hwr : IntKind.i64.wrap (byt s k) = byt s k := by rw [IntKind.wrap_i64]; omega
      generalize (cpL (romL s) k).getD k 0 = x at hx
      have hM2 : Hid (RowO (wr.setCell ⟨w.heap.size, k, none⟩ (.int .i64 (byt s k))) w.heap.size (.slice (some ⟨w.heap.size, 0, none⟩) s.size s.size) (cpL (romL s) (k + 1)) ∧ Below w.heap.size w (wr.setCell ⟨w.heap.size, k, none⟩ (.int .i64 (byt s k))) ∧ (wr.setCell ⟨w.heap.size, k, none⟩ (.int .i64 (byt s k))).heap.size = w.heap.size + 1) :=
        ⟨by rw [← cpL_succ (romL s) k (by rw [romL_len]; exact hlt), romL_at s k hlt]; exact hM.set k _, hB.setCell (p := ⟨w.heap.size, k, none⟩) (Nat.le_refl _) _, by rw [sizeSet]; exact hsz.out⟩
      clear hM hB c1 hb h
      generalize byt s k = z at *
      go_wp2
      go_roundw
      case rel => exact ⟨k + 1, by omega, by go_num, hM2.out⟩
      case measure => simp [intOf]; omega
    · obtain rfl : k = s.size := by omega
      have hE : Hid (wr.heap.size = w.heap.size + 1 ∧ ∀ t, Blk (wr.alloc (.cells #[.slice (some ⟨w.heap.size, 0, none⟩) s.size s.size] t)) (w.heap.size + 1) #[.slice (some ⟨w.heap.size, 0, none⟩) s.size s.size] ∧ RowO (wr.alloc (.cells #[.slice (some ⟨w.heap.size, 0, none⟩) s.size s.size] t)) w.heap.size (.slice (some ⟨w.heap.size, 0, none⟩) s.size s.size) (romL s) ∧ Below w.heap.size w (wr.alloc (.cells #[.slice (some ⟨w.heap.size, 0, none⟩) s.size s.size] t))) := ⟨hsz.out, fun t => ⟨by
        have := Blk.new wr #[.slice (some ⟨w.heap.size, 0, none⟩) s.size s.size] t
        rw [hsz.out] at this
        exact this, by
        rw [hall.out] at hM
        exact hM.kept (Below.heap_alloc _ _ _ (by rw [hsz.out]; omega)), hB.alloc hB.size _⟩⟩
      clear hM hB hsz
      go_wp2
      go_ret
      exact ⟨w.heap.size, ret_ptr hE.out.1, rfl, hE.out.2 _⟩
/-- the world behind '[]byte(s)' and what it holds -/
theorem conv_at (s : ByteArray) (w : World) (Z : Array Value) (t : TypeId) : ∃ cp w2, (convert 9 119 (.string s)).run Tryd.prog (w.alloc (.cells Z t)) = .ok (.slice (some ⟨w.heap.size + 1, 0, none⟩) s.size cp) w2 ∧ Blk w2 w.heap.size Z ∧ (∀ i, i < s.size → w2.cell? ⟨w.heap.size + 1, i, none⟩ = some (.int .u8 (byt s i))) ∧ w2.heap.size = w.heap.size + 1 + 1 ∧ Below w.heap.size w w2 := by
  have h := Lib.run_convert_string_bytes (P := Tryd.prog) (w.alloc (.cells Z t)) 9 119 5 s Tryd.underlying9 Tryd.underlying119 Tryd.underlying5
  rw [World.size_alloc] at h
  refine ⟨_, _, h, ?_, fun i hi => ?_, ?_, ?_⟩
  · exact ⟨t, (Lib.bytesWorld_at_old _ _ _ _ (by simp)).trans (heap_alloc_new w _)⟩
  · have := Lib.bytesWorld_cell (w.alloc (.cells Z t)) 5 s i hi
    rw [World.size_alloc] at this
    rw [this]
    rfl
  · rw [Lib.bytesWorld_size, World.size_alloc]
  · refine ⟨?_, ?_, ?_, ?_, fun k hk => ?_⟩
    · rfl
    · rfl
    · rfl
    · rw [Lib.bytesWorld_size, World.size_alloc]; omega
    · rw [Lib.bytesWorld_at_old _ _ _ _ (by simp; omega), Below.heap_alloc _ _ _ hk]
/-- while the banks of a new memory are being made -/
structure NwSt (w wr : World) (lo bm r s : Nat) (str : ByteArray) (k : Nat) : Prop where
  q0 : Blk wr w.heap.size #[.slice none 0 0, .slice none 0 0, .int .i64 0, .int .i64 0, .bool false]
  qm : Blk wr bm #[.slice (some ⟨r, 0, none⟩) 64 64, .slice (some ⟨s, 0, none⟩) 4 4, .int .i64 0, .int .i64 1, .bool false]
  row : RowO wr r (.slice (some ⟨r, 0, none⟩) 64 64) (romL str)
  ord : w.heap.size < bm ∧ bm < lo ∧ w.heap.size < r ∧ r < lo ∧ w.heap.size < s ∧ s < lo ∧ r ≠ s ∧ bm ≠ r ∧ bm ≠ s ∧ lo ≤ wr.heap.size
  blt : ∃ (c : Array Value) (t : TypeId) (G : Nat → Nat), wr.heap[s]? = some (.cells c t (0, 0)) ∧ c.size = 4 ∧ (∀ i, i < k → c[i]? = some (.slice (some ⟨G i, 0, none⟩) 64 64) ∧ RowO wr (G i) (.slice (some ⟨G i, 0, none⟩) 64 64) (List.replicate 64 0) ∧ lo ≤ G i ∧ G i < wr.heap.size) ∧ ∀ i j, i < k → j < k → G i = G j → i = j
  bel : Below w.heap.size w wr
theorem NwSt.drew {w wr : World} {lo bm r s : Nat} {str : ByteArray} {k : Nat} (h : NwSt w wr lo bm r s str k) : NwSt w wr.drew lo bm r s str k := ⟨h.q0, h.qm, h.row, h.ord, h.blt, h.bel.drew⟩
theorem NwSt.cell {w wr : World} {lo bm r s : Nat} {str : ByteArray} {k i : Nat} (h : NwSt w wr lo bm r s str k) (hi : i < 4) : (∃ u, wr.cell? ⟨s, i, none⟩ = some u) ∧ wr.frozen? ⟨s, i, none⟩ = false := by
  obtain ⟨c, t, G, h1, h2, _⟩ := h.blt
  have h3 : i < c.size := by omega
  exact ⟨⟨c[i], by simp [World.cell?, h1, h3]⟩, by simp [World.frozen?, h1]⟩
theorem made_row (W : World) (t : TypeId) : RowO (W.alloc (.cells (madeCells #[.int .i64 0] 64) t)) W.heap.size (.slice (some ⟨W.heap.size, 0, none⟩) 64 64) (List.replicate 64 0) := by
  refine ⟨64, madeCells #[.int .i64 0] 64, t, by rw [List.length_replicate], heap_alloc_new W _, fun i hi => ?_⟩
  rw [List.length_replicate] at hi
  rw [← Array.getElem?_toList, toList_madeCells_one, List.getElem?_replicate, if_pos hi, List.getD_eq_getElem?_getD, List.getElem?_replicate, if_pos hi]
  rfl
theorem NwSt.step {w wr : World} {lo bm r s : Nat} {str : ByteArray} {k : Nat} (h : NwSt w wr lo bm r s str k) (hk : k < 4) (t : TypeId) :
    NwSt w ((wr.setCell ⟨s, k, none⟩ (.slice (some ⟨wr.heap.size, 0, none⟩) 64 64)).alloc (.cells (madeCells #[.int .i64 0] 64) t)) lo bm r s str (k + 1) := by
  obtain ⟨q0, qm, row, ⟨o1, o2, o3, o4, o5, o6, o7, o8, o9, o10⟩, ⟨c, t', G, h1, h2, h3, h4⟩, bel⟩ := h
  have hr := made_row (wr.setCell ⟨s, k, none⟩ (.slice (some ⟨wr.heap.size, 0, none⟩) 64 64)) t
  rw [sizeSet] at hr
  refine ⟨(q0.other (by simp; omega) _).alloc _, (qm.other (by simp; omega) _).alloc _, row.kept ?_, ⟨o1, o2, o3, o4, o5, o6, o7, o8, o9, by rw [World.size_alloc, sizeSet]; omega⟩, ⟨c.setIfInBounds k (.slice (some ⟨wr.heap.size, 0, none⟩) 64 64), t', fun i => if i = k then wr.heap.size else G i, ?_, by simpa using h2, fun i hi => ?_, fun i j hi hj e => ?_⟩, (bel.setCell (p := ⟨s, k, none⟩) (by simp; omega) _).alloc (by rw [sizeSet]; exact bel.size) _⟩
  · rw [Below.heap_alloc _ _ _ (by rw [sizeSet]; omega), Below.heap_setCell _ _ _ _ (by simp; omega)]
  · rw [Below.heap_alloc _ _ _ (by rw [sizeSet]; omega)]
    exact heap_setCell_same' _ _ _ _ _ _ h1
  · by_cases e : i = k
    · subst e
      simp only [if_true]
      exact ⟨by rw [Array.getElem?_setIfInBounds]; simp; omega, hr, by omega, by rw [World.size_alloc, sizeSet]; omega⟩
    · simp only [if_neg e]
      obtain ⟨k1, k2, k3, k4⟩ := h3 i (by omega)
      refine ⟨by rw [Array.getElem?_setIfInBounds, if_neg (fun h => e h.symm)]; exact k1, k2.kept ?_, k3, by rw [World.size_alloc, sizeSet]; omega⟩
      rw [Below.heap_alloc _ _ _ (by rw [sizeSet]; exact k4), Below.heap_setCell _ _ _ _ (by simp; omega)]
  · by_cases e1 : i = k
    · by_cases e2 : j = k
      · rw [e1, e2]
      · simp only [if_pos e1, if_neg e2] at e
        have := (h3 j (by omega)).2.2.2
        omega
    · by_cases e2 : j = k
      · simp only [if_neg e1, if_pos e2] at e
        have := (h3 i (by omega)).2.2.2
        omega
      · simp only [if_neg e1, if_neg e2] at e
        exact h4 i j (by omega) (by omega) e
theorem NwSt.start {w wr : World} {bm r s : Nat} {str : ByteArray} (q0 : Blk wr w.heap.size #[.slice none 0 0, .slice none 0 0, .int .i64 0, .int .i64 0, .bool false]) (qm : Blk wr bm #[.slice (some ⟨r, 0, none⟩) 64 64, .slice (some ⟨s, 0, none⟩) 4 4, .int .i64 0, .int .i64 1, .bool false])
    (row : RowO wr r (.slice (some ⟨r, 0, none⟩) 64 64) (romL str)) (qs : Blk wr s (madeCells #[.slice none 0 0] 4)) (ord : w.heap.size < bm ∧ w.heap.size < r ∧ w.heap.size < s ∧ r ≠ s ∧ bm ≠ r ∧ bm ≠ s) (bel : Below w.heap.size w wr) : NwSt w wr wr.heap.size bm r s str 0 := by
  obtain ⟨t, h⟩ := id qs
  exact ⟨q0, qm, row, ⟨ord.1, qm.lt, ord.2.1, row.lt, ord.2.2.1, qs.lt, ord.2.2.2.1, ord.2.2.2.2.1, ord.2.2.2.2.2, Nat.le_refl _⟩, ⟨_, t, fun _ => 0, h, by simp [size_madeCells], fun i hi => by omega, fun i j hi => by omega⟩, bel⟩
theorem NwSt.memO {w wr W' : World} {lo bm r s : Nat} {str : ByteArray} (h : NwSt w wr lo bm r s str 4) (h64 : str.size = 64) (hs : wr.heap.size ≤ W'.heap.size) (hk : ∀ b, w.heap.size < b → b < wr.heap.size → W'.heap[b]? = wr.heap[b]?) :
    MemO W' w.heap.size W'.heap.size (memV (.slice (some ⟨r, 0, none⟩) 64 64) (.slice (some ⟨s, 0, none⟩) 4 4) 0 1 false) (newM str) := by
  obtain ⟨q0, qm, row, ⟨o1, o2, o3, o4, o5, o6, o7, o8, o9, o10⟩, ⟨c, t', G, h1, h2, h3, h4⟩, bel⟩ := h
  unfold newM
  rw [if_pos h64]
  have hg4 : ∀ i, i < 4 → (List.replicate 4 (List.replicate 64 (0 : Int))).getD i [] = List.replicate 64 0 := fun i hi => by
    rw [List.getD_eq_getElem?_getD, List.getElem?_replicate, if_pos hi]
    rfl
  refine .inr ⟨_, _, r, s, G, rfl, row.kept (hk _ o3 (by omega)), ⟨4, c, t', fun i => .slice (some ⟨G i, 0, none⟩) 64 64, by rw [List.length_replicate], (hk _ o5 (by omega)).trans h1, fun i hi => (h3 i (by simpa using hi)).1, fun i hi => ?_⟩, by omega, by omega, fun i hi => by have := (h3 i (by simpa using hi)).2.2; omega, o7, fun i hi => by have := (h3 i (by simpa using hi)).2.2; omega, fun i j hi hj => h4 i j (by simpa using hi) (by simpa using hj)⟩
  have hi' : i < 4 := by simpa using hi
  rw [hg4 i hi']
  obtain ⟨k1, k2, k3, k4⟩ := h3 i hi'
  exact k2.kept (hk _ (by omega) k4)
abbrev set5 (W : World) (b : Nat) (a0 a1 a2 a3 a4 : Value) : World := ((((W.setCell ⟨b, 0, none⟩ a0).setCell ⟨b, 1, none⟩ a1).setCell ⟨b, 2, none⟩ a2).setCell ⟨b, 3, none⟩ a3).setCell ⟨b, 4, none⟩ a4
theorem set5_blk {W : World} {b : Nat} {z0 z1 z2 z3 z4 : Value} (h : Blk W b #[z0, z1, z2, z3, z4]) (a0 a1 a2 a3 a4 : Value) : Blk (set5 W b a0 a1 a2 a3 a4) b #[a0, a1, a2, a3, a4] := by
  have := ((((h.set 0 a0).set 1 a1).set 2 a2).set 3 a3).set 4 a4
  simpa using this
theorem set5_heap (W : World) {b k : Nat} (hne : k ≠ b) (a0 a1 a2 a3 a4 : Value) : (set5 W b a0 a1 a2 a3 a4).heap[k]? = W.heap[k]? := by
  iterate 5 rw [Below.heap_setCell _ _ _ _ (by simpa using hne)]
theorem set5_size (W : World) (b : Nat) (a0 a1 a2 a3 a4 : Value) : (set5 W b a0 a1 a2 a3 a4).heap.size = W.heap.size := by
  iterate 5 rw [sizeSet]
theorem set5_below {w W : World} {n b : Nat} (h : Below n w W) (hb : n ≤ b) (a0 a1 a2 a3 a4 : Value) : Below n w (set5 W b a0 a1 a2 a3 a4) := by
  iterate 5 refine Below.setCell ?_ (by simpa using hb) _
  exact h
theorem Blk.keptH {W W' : World} {b : Nat} {cs : Array Value} (h : Blk W b cs) (e : W'.heap[b]? = W.heap[b]?) : Blk W' b cs := by
  obtain ⟨t, h⟩ := h
  exact ⟨t, e.trans h⟩
section
variable {w w3 : World} {r : Nat} {s : ByteArray} (h64 : s.size = 64) (q0 : Blk w3 w.heap.size #[.slice none 0 0, .slice none 0 0, .int .i64 0, .int .i64 0, .bool false]) (row : RowO w3 r (.slice (some ⟨r, 0, none⟩) s.size s.size) (romL s)) (hr : w.heap.size < r) (bel : Below w.heap.size w w3)
include h64 q0 row hr bel
theorem nwS1 (t t' : TypeId) : NwSt w ((w3.alloc (.cells (madeCells #[.slice none 0 0] 4) t)).alloc (.cells #[.slice (some ⟨r, 0, none⟩) s.size s.size, .slice (some ⟨w3.heap.size, 0, none⟩) 4 4, .int .i64 0, .int .i64 1, .bool false] t')) ((w3.alloc (.cells (madeCells #[.slice none 0 0] 4) t)).alloc (.cells #[.slice (some ⟨r, 0, none⟩) s.size s.size, .slice (some ⟨w3.heap.size, 0, none⟩) 4 4, .int .i64 0, .int .i64 1, .bool false] t')).heap.size (w3.heap.size + 1) r w3.heap.size s 0 := by
  have hl := row.lt
  have hz := q0.lt
  rw [h64] at row ⊢
  have qm := Blk.new (w3.alloc (.cells (madeCells #[.slice none 0 0] 4) t)) #[.slice (some ⟨r, 0, none⟩) 64 64, .slice (some ⟨w3.heap.size, 0, none⟩) 4 4, .int .i64 0, .int .i64 1, .bool false] t'
  rw [World.size_alloc] at qm
  exact NwSt.start ((q0.alloc _).alloc _) qm (row.kept ((Below.heap_alloc _ _ _ (by rw [World.size_alloc]; omega)).trans (Below.heap_alloc _ _ _ hl))) ((Blk.new w3 _ t).alloc _) (by omega) ((bel.alloc bel.size _).alloc (by rw [World.size_alloc]; omega) _)
theorem nwS2 (t t' : TypeId) : NwSt w ((w3.alloc (.cells #[.slice (some ⟨r, 0, none⟩) s.size s.size, .slice (some ⟨w3.heap.size + 1, 0, none⟩) 4 4, .int .i64 0, .int .i64 1, .bool false] t')).alloc (.cells (madeCells #[.slice none 0 0] 4) t)) ((w3.alloc (.cells #[.slice (some ⟨r, 0, none⟩) s.size s.size, .slice (some ⟨w3.heap.size + 1, 0, none⟩) 4 4, .int .i64 0, .int .i64 1, .bool false] t')).alloc (.cells (madeCells #[.slice none 0 0] 4) t)).heap.size w3.heap.size r (w3.heap.size + 1) s 0 := by
  have hl := row.lt
  have hz := q0.lt
  rw [h64] at row ⊢
  have qs := Blk.new (w3.alloc (.cells #[.slice (some ⟨r, 0, none⟩) 64 64, .slice (some ⟨w3.heap.size + 1, 0, none⟩) 4 4, .int .i64 0, .int .i64 1, .bool false] t')) (madeCells #[.slice none 0 0] 4) t
  rw [World.size_alloc] at qs
  exact NwSt.start ((q0.alloc _).alloc _) ((Blk.new w3 _ t').alloc _) (row.kept ((Below.heap_alloc _ _ _ (by rw [World.size_alloc]; omega)).trans (Below.heap_alloc _ _ _ hl))) qs (by omega) ((bel.alloc bel.size _).alloc (by rw [World.size_alloc]; omega) _)
theorem nwS3 {g : Nat} (qs : Blk w3 g (madeCells #[.slice none 0 0] 4)) (hg : w.heap.size < g) (hgr : r ≠ g) (t' : TypeId) : NwSt w (w3.alloc (.cells #[.slice (some ⟨r, 0, none⟩) s.size s.size, .slice (some ⟨g, 0, none⟩) 4 4, .int .i64 0, .int .i64 1, .bool false] t')) (w3.alloc (.cells #[.slice (some ⟨r, 0, none⟩) s.size s.size, .slice (some ⟨g, 0, none⟩) 4 4, .int .i64 0, .int .i64 1, .bool false] t')).heap.size w3.heap.size r g s 0 := by
  have hl := row.lt
  have hz := q0.lt
  have hgl := qs.lt
  rw [h64] at row ⊢
  exact NwSt.start (q0.alloc _) (Blk.new w3 _ t') (row.kept (Below.heap_alloc _ _ _ hl)) (qs.alloc _) (by omega) (bel.alloc bel.size _)
theorem nwS4 {g b : Nat} {z0 z1 z2 z3 z4 : Value} (qs : Blk w3 g (madeCells #[.slice none 0 0] 4)) (qb : Blk w3 b #[z0, z1, z2, z3, z4]) (hg : w.heap.size < g) (hb : w.heap.size < b) (hgr : r ≠ g) (hbr : b ≠ r) (hbg : b ≠ g) : NwSt w (set5 w3 b (.slice (some ⟨r, 0, none⟩) s.size s.size) (.slice (some ⟨g, 0, none⟩) 4 4) (.int .i64 0) (.int .i64 1) (.bool false)) (set5 w3 b (.slice (some ⟨r, 0, none⟩) s.size s.size) (.slice (some ⟨g, 0, none⟩) 4 4) (.int .i64 0) (.int .i64 1) (.bool false)).heap.size b r g s 0 := by
  have hl := row.lt
  rw [h64] at row ⊢
  exact NwSt.start (q0.keptH (set5_heap _ (by omega) _ _ _ _ _)) (set5_blk qb _ _ _ _ _) (row.kept (set5_heap _ (by omega) _ _ _ _ _)) (qs.keptH (set5_heap _ (by omega) _ _ _ _ _)) (by omega) (set5_below bel (by omega) _ _ _ _ _)
theorem nwS5 {b : Nat} {z0 z1 z2 z3 z4 : Value} (qb : Blk w3 b #[z0, z1, z2, z3, z4]) (hb : w.heap.size < b) (hbr : b ≠ r) (t : TypeId) : NwSt w ((set5 w3 b (.slice (some ⟨r, 0, none⟩) s.size s.size) (.slice (some ⟨w3.heap.size, 0, none⟩) 4 4) (.int .i64 0) (.int .i64 1) (.bool false)).alloc (.cells (madeCells #[.slice none 0 0] 4) t)) ((set5 w3 b (.slice (some ⟨r, 0, none⟩) s.size s.size) (.slice (some ⟨w3.heap.size, 0, none⟩) 4 4) (.int .i64 0) (.int .i64 1) (.bool false)).alloc (.cells (madeCells #[.slice none 0 0] 4) t)).heap.size b r w3.heap.size s 0 := by
  have hl := row.lt
  have hz := q0.lt
  have hbl := qb.lt
  rw [h64] at row ⊢
  have qs := Blk.new (set5 w3 b (.slice (some ⟨r, 0, none⟩) 64 64) (.slice (some ⟨w3.heap.size, 0, none⟩) 4 4) (.int .i64 0) (.int .i64 1) (.bool false)) (madeCells #[.slice none 0 0] 4) t
  rw [set5_size] at qs
  exact NwSt.start ((q0.keptH (set5_heap _ (by omega) _ _ _ _ _)).alloc _) ((set5_blk qb _ _ _ _ _).alloc _) (row.kept ((Below.heap_alloc _ _ _ (by rw [set5_size]; exact hl)).trans (set5_heap _ (by omega) _ _ _ _ _))) qs (by omega) ((set5_below bel (by omega) _ _ _ _ _).alloc (by rw [set5_size]; exact bel.size) _)
end
theorem w_one {w2 w3 : World} {o : Obj} {cs : Array Value} {t : TypeId} (hb : Below (((w2.alloc o).alloc (.cells cs t)).drew).heap.size ((w2.alloc o).alloc (.cells cs t)).drew w3) : Blk w3 (w2.heap.size + 1) cs := by
  have h := Blk.new (w2.alloc o) cs t
  rw [World.size_alloc] at h
  exact Blk.keptH h (hb.block _ (by simp))
theorem w_two {w2 w3 : World} {o : Obj} {cs cs' : Array Value} {t t' : TypeId} (hb : Below ((((w2.alloc o).alloc (.cells cs t)).alloc (.cells cs' t')).drew).heap.size (((w2.alloc o).alloc (.cells cs t)).alloc (.cells cs' t')).drew w3) : Blk w3 (w2.heap.size + 1) cs ∧ Blk w3 (w2.heap.size + 1 + 1) cs' := by
  have h := (Blk.new (w2.alloc o) cs t).alloc (.cells cs' t')
  have h' := Blk.new ((w2.alloc o).alloc (.cells cs t)) cs' t'
  simp only [World.size_alloc] at h h'
  exact ⟨Blk.keptH h (hb.block _ (by simp)), Blk.keptH h' (hb.block _ (by simp))⟩
theorem bel_three {w2 W' w3 : World} {o : Obj} (h : Below (w2.alloc o).heap.size (w2.alloc o) W') (k : Below W'.heap.size W' w3) : Below w2.heap.size w2 w3 := by
  have hs := h.size
  rw [World.size_alloc] at hs h
  exact (((Below.refl _ _).alloc (Nat.le_refl _) o).trans (h.mono (by omega))).trans (k.mono (by omega))
set_option maxRecDepth 100000 in
set_option maxHeartbeats 8000000 in
theorem new_impl (s : ByteArray) (w : World) (hs : s.size ≤ maxLen) :
    Calls Tryd.prog 30 #[.string s] w fun e w' => ∃ u, e = .returned (.tuple #[u, .int .i64 (newC s)]) ∧ MemO w' w.heap.size w'.heap.size u (newM s) ∧ Below w.heap.size w w' := by
  unfold maxLen at hs
  by_cases h1 : 65536 < s.size
  · have e1 : newC s = 2 := by unfold newC; rw [if_pos h1]
    have e2 : newM s = mem0 := by unfold newM; rw [if_neg (by omega)]
    rw [e1, e2]
    go_enter Tryd.func30, Tryd.ntmps30
    go_wp2
    refine bodyPost_ret (v := .tuple #[memV (.slice none 0 0) (.slice none 0 0) 0 0 false, .int .i64 2]) (by simp [results, Tryd.results30, go_sem]) rfl ⟨_, rfl, MemO.zero _ _ _, ?_⟩
    exact (Below.refl _ _).alloc (Nat.le_refl _) _
  have h1' : decide ((65536 : Int) < (s.size : Int)) = false := by simp; omega
  obtain ⟨cp, w2, hcv, q2, hcs, hsz, hb2⟩ := conv_at s w #[.slice none 0 0, .slice none 0 0, .int .i64 0, .int .i64 0, .bool false] 30
  have hz2 : w.heap.size < w2.heap.size := by omega
  have hcs2 : Hid (∀ o, ∀ i, i < s.size → (w2.alloc o).cell? ⟨w.heap.size + 1, i, none⟩ = some (.int .u8 (byt s i))) := fun o i hi => by
    rw [World.cell?_alloc_past _ _ _ (by omega)]
    exact hcs i hi
  by_cases h2 : s.size = 64
  rotate_left
  · have e1 : newC s = 8 := by unfold newC; rw [if_neg h1, if_neg h2]
    have e2 : newM s = mem0 := by unfold newM; rw [if_neg h2]
    have hd : decide (s.size = 64) = false := decide_eq_false h2
    have x2 := q2.cell
    have f2 := q2.frozen
    have hB2 : Hid (∀ o, Below w.heap.size w (w2.alloc o)) := fun o => hb2.alloc hb2.size _
    rw [e1, e2]
    replace hb2 := hid hb2
    clear h2 e1 e2 hcs hsz q2 hB2
    go_enter Tryd.func30, Tryd.ntmps30
    go_wp2_with fail
    refine (bwhole_impl _ _ cp s _ (cell_new1 _ _ _) (hcs2.out _) (by omega)).mono ?_
    rintro e w' ⟨rfl, rfl⟩
    rw [hd]
    go_wp2
    refine bodyPost_ret (v := .tuple #[memV (.slice none 0 0) (.slice none 0 0) 0 0 false, .int .i64 8]) (by simp [results, Tryd.results30, go_sem, x2, hz2]) rfl ⟨_, rfl, MemO.zero _ _ _, ?_⟩
    refine Below.alloc ?_ (by (iterate 5 rw [sizeSet]); omega) _
    iterate 5 refine Below.setCell ?_ (by first | omega | (simp; done) | (simp; omega)) _
    exact hb2.out
  have e1 : newC s = 0 := by unfold newC; rw [if_neg h1, if_pos h2]
  have hd : decide (s.size = 64) = true := decide_eq_true h2
  have hmk4 : ∀ W : World, (Instr.makeSlice 28 (.int .i64 4) (.int .i64 4)).run Tryd.prog W = .ok (.slice (some ⟨W.heap.size, 0, none⟩) 4 4) (W.alloc (.cells (madeCells #[.slice none 0 0] 4) 27)) := fun W => run_make_row' (P := Tryd.prog) 28 27 (.slice none 0 0) 24 Tryd.underlying28 infoMM rfl .i64 .i64 4 (by omega) (by omega) W
  have hmk64 : ∀ W : World, (Instr.makeSlice 27 (.int .i64 64) (.int .i64 64)).run Tryd.prog W = .ok (.slice (some ⟨W.heap.size, 0, none⟩) 64 64) (W.alloc (.cells (madeCells #[.int .i64 0] 64) 3)) := fun W => run_make_row' (P := Tryd.prog) 27 3 (.int .i64 0) 8 Tryd.underlying27 infoM rfl .i64 .i64 64 (by omega) (by omega) W
  rw [e1]
  have h64 := hid h2
  clear h2 e1
  obtain ⟨MC4, hM4⟩ : ∃ MC4, madeCells #[.slice none 0 0] 4 = MC4 := ⟨_, rfl⟩
  obtain ⟨MC64, hM64⟩ : ∃ MC64, madeCells #[.int .i64 0] 64 = MC64 := ⟨_, rfl⟩
  rw [hM4] at hmk4
  rw [hM64] at hmk64
  replace hM4 := hid hM4
  replace hM64 := hid hM64
  replace hsz := hid hsz
  replace q2 := hid q2
  replace hb2 := hid hb2
  clear hcs
  go_enter Tryd.func30, Tryd.ntmps30
  go_wp2_with fail
  refine (bwhole_impl _ _ cp s _ (cell_new1 _ _ _) (hcs2.out _) (by omega)).mono ?_
  rintro e w' ⟨rfl, rfl⟩
  rw [hd]
  have B0 : Hid (∀ o1, Below (w2.alloc o1).heap.size (w2.alloc o1) (w2.alloc o1).drew) := fun o1 => (Below.refl _ _).drew
  have B1 : Hid (∀ o1 o2, Below (w2.alloc o1).heap.size (w2.alloc o1) ((w2.alloc o1).drew.alloc o2)) := fun o1 o2 => Below.alloc (Below.drew (Below.refl (w2.alloc o1).heap.size (w2.alloc o1))) (Nat.le_refl (w2.alloc o1).heap.size) o2
  have B2 : Hid (∀ o1 o2 o3, Below (w2.alloc o1).heap.size (w2.alloc o1) (((w2.alloc o1).drew.alloc o2).alloc o3)) := fun o1 o2 o3 => Below.alloc (B1.out o1 o2) (by rw [World.size_alloc ((w2.alloc o1).drew)]; exact Nat.le_succ (w2.alloc o1).heap.size) o3
  have P1 : Hid (∀ o1 W', Below (w2.alloc o1).heap.size (w2.alloc o1) W' → ∀ i, i < s.size → W'.cell? ⟨w.heap.size + 1, i, none⟩ = some (.int .u8 (byt s i))) := fun o1 W' hb i hi => by
    rw [hb.cell (p := ⟨w.heap.size + 1, i, none⟩) (by simp [hsz.out])]
    exact hcs2.out _ i hi
  have P2 : Hid (∀ v t W', Below (w2.alloc (.cells #[v] t)).heap.size (w2.alloc (.cells #[v] t)) W' → W'.cell? ⟨w2.heap.size, 0, none⟩ = some v) := fun v t W' hb => by
    rw [hb.cell (p := ⟨w2.heap.size, 0, none⟩) (by simp)]
    exact cell_new1 _ _ _
  go_upto_region 6 with fail
  go_cut [5] (fun m wx => ∃ bm r g, m = .pointer (some ⟨bm, 0, none⟩) ∧ NwSt w wx wx.heap.size bm r g s 0)
  case first =>
    go_region_with ((go_at_call 79; refine (bcopied_impl _ _ cp s _ (P2.out _ _ _ (by first | exact B0.out _ | exact B1.out _ _ | exact B2.out _ _ _)) (P1.out _ _ (by first | exact B0.out _ | exact B1.out _ _ | exact B2.out _ _ _)) (by omega)).mono ?_; rintro e w3 ⟨r, rfl, hr, hbk, hrow, hbel⟩; have xb := hbk.cell 0; have hcc := bcell hbel; have hc3 := hcc.1; have hf3 := hcc.2; have hzz := hbel.size; have hb3 : Below w2.heap.size w2 w3 := (by first | exact bel_three (B0.out _) hbel | exact bel_three (B1.out _ _) hbel | exact bel_three (B2.out _ _ _) hbel); replace hb3 := hid hb3; have hzb := hbk.lt; have hzc : r + 1 < w3.heap.size + 1 := (by omega); simp only [World.size_alloc, World.size_drew] at hc3 hf3 hzz hr; have hq1 : w2.heap.size + 1 < w3.heap.size := (by omega); have hq2 : w2.heap.size + 1 + 1 < w3.heap.size := (by omega); have hq3 : w2.heap.size + 1 < w3.heap.size + 1 := (by omega); replace hr := hid hr; replace hbel := hid hbel; replace hbk := hid hbk; replace hrow := hid hrow; clear hcc))
    all_goals
      go_wp2_with fail
      go_meet
      have hN := hsz.out
      have h0 := q2.out.below hb3.out hz2
      have hbw := hb2.out.trans (hb3.out.mono (by omega))
      have hrr := hr.out
      obtain rfl := hM4.out
    · exact ⟨_, _, _, rfl, nwS1 h64.out h0 hrow.out (by omega) hbw _ _⟩
    · exact ⟨_, _, _, rfl, nwS2 h64.out h0 hrow.out (by omega) hbw _ _⟩
    · exact ⟨_, _, _, rfl, nwS1 h64.out h0 hrow.out (by omega) hbw _ _⟩
    · exact ⟨_, _, _, rfl, nwS1 h64.out h0 hrow.out (by omega) hbw _ _⟩
    · exact ⟨_, _, _, rfl, nwS2 h64.out h0 hrow.out (by omega) hbw _ _⟩
    · exact ⟨_, _, _, rfl, nwS2 h64.out h0 hrow.out (by omega) hbw _ _⟩
    · exact ⟨_, _, _, rfl, nwS3 h64.out h0 hrow.out (by omega) hbw (w_one hbel.out) (by omega) (by omega) _⟩
    · exact ⟨_, _, _, rfl, nwS3 h64.out h0 hrow.out (by omega) hbw (w_one hbel.out) (by omega) (by omega) _⟩
    · exact ⟨_, _, _, rfl, nwS4 h64.out h0 hrow.out (by omega) hbw (w_two hbel.out).1 (w_two hbel.out).2 (by omega) (by omega) (by omega) (by omega) (by omega)⟩
    · exact ⟨_, _, _, rfl, nwS5 h64.out h0 hrow.out (by omega) hbw (w_one hbel.out) (by omega) (by omega) _⟩
    · exact ⟨_, _, _, rfl, nwS5 h64.out h0 hrow.out (by omega) hbw (w_one hbel.out) (by omega) (by omega) _⟩
    · exact ⟨_, _, _, rfl, nwS4 h64.out h0 hrow.out (by omega) hbw (w_two hbel.out).2 (w_two hbel.out).1 (by omega) (by omega) (by omega) (by omega) (by omega)⟩
  case rest =>
    obtain ⟨bm, r, g, rfl, hS⟩ := hcut
    have y := hS.qm.cell
    have hzm := hS.qm.lt
    replace hS := hid hS
    clear hmk4 B0 B1 B2 P1 P2 hcv hcs2 q2 hb2 hsz hM4
    go_wp2
    go_loopw [29] (fun i wr => ∃ k : Nat, k ≤ 4 ∧ i = .int .i64 k ∧ NwSt w wr wc.heap.size bm r g s k) (fun i _ => 4 - (intOf i).toNat)
    case atStart => exact ⟨0, by omega, rfl, hS.out⟩
    case round =>
      obtain ⟨k, hk, rfl, hT⟩ := hrel
      clear hS y hzm
      have y := hT.qm.cell
      have hzm := hT.qm.lt
      have hgl : g < wr.heap.size := by have := hT.ord; omega
      by_cases hlt : k < 4
      · have hst := hid (hT.step hlt 3).drew
        rw [hM64.out] at hst
        obtain ⟨⟨x, hx⟩, hfr⟩ := hT.cell hlt
        clear hT
        go_wp2
        go_region
        go_wp2
        go_roundw
        case rel => exact ⟨k + 1, by omega, by go_num, hst.out⟩
        case measure => simp [intOf]; omega
      · obtain rfl : k = 4 := by omega
        have x0 := hT.q0.cell
        have f0 := hT.q0.frozen
        have hz0 := hT.q0.lt
        have hbw := hid hT.bel
        replace hT := hid hT
        clear hmk64
        go_wp2
        refine bodyPost_ret (v := .tuple #[memV (.slice (some ⟨r, 0, none⟩) 64 64) (.slice (some ⟨g, 0, none⟩) 4 4) 0 1 false, .int .i64 0]) (by simp [results, Tryd.results30, go_sem, x0]) rfl ⟨_, rfl, ?_, ?_⟩
        · refine hT.out.memO h64.out (by (iterate 5 rw [sizeSet]); exact Nat.le_refl _) (fun b hb1 hb2 => ?_)
          iterate 5 rw [Below.heap_setCell _ _ _ _ (by simp; omega)]
        · iterate 5 refine Below.setCell ?_ (by first | omega | (simp; done) | (simp; omega)) _
          exact hbw.out
end Go.Proofs.YtifcdojaocndhaaDoor
