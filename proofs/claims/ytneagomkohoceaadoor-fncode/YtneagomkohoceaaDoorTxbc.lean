/- Numbers as words, as the program writes them. -/
import Derived.Test.YtneagomkohoceaaDoorTxac
import Derived.Test.YtneagomkohoceaaDoorIgc
import Derived.Deep.OwnRows
import Derived.Lib.LaidTab
namespace Go.Proofs.YtneagomkohoceaaDoor
open Go.ChangeShapes Go.WideShapes Go.ChangeAt Go.RowKit
set_option linter.unusedVariables false
set_option linter.unusedSimpArgs false

/-- the library's table of powers of ten -/
def PowT (w : World) : Prop := Lib.TabIs Tryd.prog w "internal/strconv.uint64pow10" .u64 Lib.pow10Tab
theorem gPowT : Tryd.prog.globalNamed "internal/strconv.uint64pow10" = some 3 := by kernel_rfl
theorem PowT.below {w w' : World} {n : Nat} (h : PowT w) (hb : Below n w w') (hn : 3 < n) : PowT w' := by
  unfold PowT Lib.TabIs World.var? at h ⊢
  rw [gPowT] at h ⊢
  simp only [Option.bind_some] at h ⊢
  rw [hb.block 3 hn]
  exact h
theorem PowT.lt {w : World} (h : PowT w) : 3 < w.heap.size := by
  unfold PowT Lib.TabIs World.var? at h
  rw [gPowT] at h
  simp only [Option.bind_some] at h
  rcases Nat.lt_or_ge 3 w.heap.size with h' | h'
  · exact h'
  · rw [Array.getElem?_eq_none h'] at h; cases h
theorem PowT.up {w w' : World} (h : PowT w) (hb : Below w.heap.size w w') : PowT w' := h.below hb h.lt
theorem tPowT : (Tryd.prog.globals[3]?).map (·.type) = some 132 := by kernel_rfl
theorem belowX_more (w : World) (k : Nat) (os : Array Obj) : Below w.heap.size w (Go.Sort.grow (w.drewN k) os) :=
  ⟨rfl, rfl, rfl, by show w.heap.size ≤ (w.heap ++ os).size; rw [Array.size_append]; omega, fun j hj => by
    show (w.heap ++ os)[j]? = w.heap[j]?
    rw [Array.getElem?_append, if_pos hj]⟩
theorem itoaX_impl (n : Nat) (w : World) (h : n < 1000000000) (hT : PowT w) : Calls Tryd.prog 60 #[.int .i64 (n : Int)] w fun e w' => e = .returned (.string (digB n)) ∧ Below w.heap.size w w' := by
  refine (Tryd.strconv_Itoa (n : Int) (by omega) (by omega) w hT).mono ?_
  rintro e w' ⟨rfl, k, os, rfl⟩
  refine ⟨ret_str ?_, belowX_more w k os⟩
  unfold digB Lib.itoa
  rw [if_neg (by omega), Int.toNat_natCast]
/-- the words of numbers, j of them written -/
def nwL (ns : List Nat) (j : Nat) : List ByteArray := (List.range ns.length).map fun i => if i < j then digB (ns.getD i 0) else ⟨#[]⟩
def nwA (ns : List Nat) (j : Nat) : Array Value := ((nwL ns j).map Value.string).toArray
theorem nwL_len (ns : List Nat) (j : Nat) : (nwL ns j).length = ns.length := by simp [nwL]
theorem nwA_size (ns : List Nat) (j : Nat) : (nwA ns j).size = ns.length := by simp [nwA, nwL]
theorem nwA_made (ns : List Nat) : madeCells #[.string ⟨#[]⟩] ns.length = nwA ns 0 := by
  apply Array.ext'
  rw [toList_madeCells_one]
  unfold nwA nwL
  show List.replicate _ _ = List.map _ (List.map _ _)
  symm
  apply List.eq_replicate_iff.2
  refine ⟨by simp, fun b hb => ?_⟩
  simp only [Nat.not_lt_zero, if_false, List.map_map, List.mem_map] at hb
  obtain ⟨_, _, rfl⟩ := hb
  rfl
theorem nwA_all (ns : List Nat) : nwA ns ns.length = ((ns.map digB).map Value.string).toArray := by
  unfold nwA nwL
  congr 2
  apply List.ext_getElem?
  intro i
  rw [List.getElem?_map]
  rcases Nat.lt_or_ge i ns.length with h | h
  · rw [List.getElem?_range h, Option.map_some, if_pos h, List.getElem?_map, List.getElem?_eq_getElem h, List.getD_eq_getElem?_getD, List.getElem?_eq_getElem h]
    rfl
  · rw [List.getElem?_eq_none (by simpa using h), List.getElem?_eq_none (by simpa using h)]
    rfl
theorem nwA_succ (ns : List Nat) {j : Nat} (h : j < ns.length) : (nwA ns j).setIfInBounds j (.string (digB (ns.getD j 0))) = nwA ns (j + 1) := by
  unfold nwA
  rw [List.setIfInBounds_toArray]
  congr 1
  apply List.ext_getElem?
  intro i
  rw [List.getElem?_set]
  unfold nwL
  simp only [List.getElem?_map, List.length_map, List.length_range]
  rcases Nat.lt_or_ge i ns.length with hi | hi
  · rw [List.getElem?_range hi]
    simp only [Option.map_some]
    by_cases hij : j = i
    · subst hij
      rw [if_pos rfl, if_pos h, if_pos (by omega)]
    · rw [if_neg hij]
      by_cases h2 : i < j
      · rw [if_pos h2, if_pos (by omega)]
      · rw [if_neg h2, if_neg (by omega)]
  · rw [List.getElem?_eq_none (by simpa using hi), if_neg (by omega)]
    rfl
theorem nwA_at (ns : List Nat) {j : Nat} (k : Nat) (h : j < ns.length) : ∃ s, (nwA ns k)[j]? = some (.string s) := by
  unfold nwA nwL
  rw [List.getElem?_toArray, List.getElem?_map, List.getElem?_map, List.getElem?_range h]
  exact ⟨_, rfl⟩
theorem own_of_cells {W : World} {lo g n : Nat} {e : TypeId} {cs : Array Value} (h : W.heap[g]? = some (.cells cs e (0, 0))) (hlo : lo ≤ g) (hn : cs.size = n) (hm : n ≤ 1000000) : W.ownsRow lo e 1 (.slice (some ⟨g, 0, none⟩) n n) n cs.toList := by
  refine ⟨by simp [hn], .inr ⟨g, n, cs, rfl, hlo, h, Nat.le_refl _, by unfold maxLen; omega, by omega, ?_⟩⟩
  rw [List.take_of_length_le]
  simp [hn]
set_option maxRecDepth 100000 in
set_option maxHeartbeats 1000000 in
theorem numw_impl (pa : Option Addr) (pg c : Nat) (ns : List Nat) (w : World) (hT : PowT w) (hpa : 0 < ns.length → pa = some ⟨pg, 0, none⟩) (hn : ns.length ≤ 100)
    (hp : ∀ i, i < ns.length → ∃ b o, w.cell? ⟨pg, i, none⟩ = some (.pointer (some ⟨b, o, none⟩)) ∧ w.cell? ⟨b, o, none⟩ = some (.int .i64 (ns.getD i 0 : Nat)) ∧ ns.getD i 0 < 1000000000) :
    Calls Tryd.prog 37 #[.slice pa ns.length c] w fun e w' => e = .returned (.slice (some ⟨w.heap.size, 0, none⟩) ns.length ns.length) ∧ w'.ownsRow w.heap.size 9 1 (.slice (some ⟨w.heap.size, 0, none⟩) ns.length ns.length) ns.length ((ns.map digB).map Value.string) ∧ Below w.heap.size w w' := by
  have hmk := fun W => run_make_row' (P := Tryd.prog) 37 9 (.string ⟨#[]⟩) 16 Tryd.underlying37 infoStr rfl .i64 .i64 ns.length (by omega) (by omega) W
  have hall := hid (nwA_all ns)
  have hsz := hid (nwA_size ns)
  have h0 : Hid ((w.alloc (.cells (madeCells #[.string ⟨#[]⟩] ns.length) 9)).heap[w.heap.size]? = some (.cells (nwA ns 0) 9 (0, 0))) := by
    rw [nwA_made]
    exact heap_alloc_new w _
  have hsucc : Hid (∀ j, j < ns.length → (nwA ns j).setIfInBounds j (.string (digB (ns.getD j 0))) = nwA ns (j + 1)) := fun j h => nwA_succ ns h
  have hat : Hid (∀ j k, j < ns.length → ∃ s, (nwA ns k)[j]? = some (.string s)) := fun j k h => nwA_at ns k h
  generalize madeCells #[.string ⟨#[]⟩] ns.length = MC at *
  replace hp := hid hp
  replace hpa := hid hpa
  replace hT := hid hT
  go_enter Tryd.func37, Tryd.ntmps37
  go_wp2
  clear hmk
  go_loopw [11] (fun i wr => ∃ k : Nat, k ≤ ns.length ∧ i = .int .i64 k ∧ wr.heap[w.heap.size]? = some (.cells (nwA ns k) 9 (0, 0)) ∧ Below w.heap.size w wr) (fun i _ => ns.length - (intOf i).toNat)
  case atStart => exact ⟨0, by omega, rfl, h0.out, (Below.refl _ _).alloc (Nat.le_refl _) _⟩
  case round =>
    obtain ⟨k, hk, rfl, hM, hB⟩ := hrel
    clear h0
    by_cases hlt : k < ns.length
    · have hpa' := hpa.out (by omega)
      subst hpa'
      obtain ⟨b, o, c1, c2, hbd⟩ := hp.out k hlt
      have hb1 := World.block_lt_of_cell? w _ c1
      have hb2 := World.block_lt_of_cell? w _ c2
      have c3 : wr.cell? ⟨pg, k, none⟩ = some (.pointer (some ⟨b, o, none⟩)) := by rw [hB.cell (p := ⟨pg, k, none⟩) hb1]; exact c1
      have c4 : wr.cell? ⟨b, o, none⟩ = some (.int .i64 (ns.getD k 0 : Nat)) := by rw [hB.cell (p := ⟨b, o, none⟩) hb2]; exact c2
      obtain ⟨s0, hs0⟩ := hat.out k k hlt
      have hst := hid (hsucc.out k hlt)
      clear c1 c2 hb1 hb2 hsucc hat
      generalize ns.getD k 0 = v at *
      obtain ⟨D, hD⟩ : ∃ D, digB v = D := ⟨_, rfl⟩
      rw [hD] at hst
      replace hD := hid hD
      have hTw : Hid (PowT wr) := hT.out.below hB hT.out.lt
      have hx := hid hM
      replace hB := hid hB
      go_wp2_with fail
      refine (itoaX_impl v _ hbd hTw.out).mono ?_
      rintro e W2 ⟨rfl, hb2⟩
      have hM2 : W2.heap[w.heap.size]? = some (.cells (nwA ns k) 9 (0, 0)) := (hb2.block _ (by rcases Nat.lt_or_ge w.heap.size wr.heap.size with h | h; exact h; rw [Array.getElem?_eq_none h] at hM; cases hM)).trans hx.out
      have hB2 := hid (hB.out.trans (hb2.mono hB.out.size))
      clear hb2 hB hx hM c3 c4 hTw
      rw [hD.out]
      have hx2 : W2.cell? ⟨w.heap.size, k, none⟩ = some (.string s0) := by simp [World.cell?, hM2, hs0]
      have hfr : W2.frozen? ⟨w.heap.size, k, none⟩ = false := by simp [World.frozen?, hM2]
      have hM3 : Hid ((W2.setCell ⟨w.heap.size, k, none⟩ (.string D)).heap[w.heap.size]? = some (.cells (nwA ns (k + 1)) 9 (0, 0)) ∧ Below w.heap.size w (W2.setCell ⟨w.heap.size, k, none⟩ (.string D))) :=
        ⟨by rw [← hst.out]; exact heap_setCell_same' _ _ _ _ _ _ hM2, hB2.out.setCell (p := ⟨w.heap.size, k, none⟩) (Nat.le_refl _) _⟩
      clear hM2 hst hs0 hB2
      go_wp2
      go_roundw
      case rel => exact ⟨k + 1, by omega, by go_num, hM3.out.1, hM3.out.2⟩
      case measure => simp [intOf]; omega
    · obtain rfl : k = ns.length := by omega
      have hO := hid (own_of_cells (lo := w.heap.size) hM (Nat.le_refl _) (hsz.out _) (by omega))
      rw [hall.out] at hO
      have hO' : Hid (wr.ownsRow w.heap.size 9 1 (.slice (some ⟨w.heap.size, 0, none⟩) ns.length ns.length) ns.length (ns.map (Value.string ∘ digB))) := by
        have := hO.out
        rw [List.map_map] at this
        exact this
      clear hO
      replace hB := hid hB
      clear hM hsz hall hat hsucc
      go_wp2
      go_ret
      refine ⟨rfl, ?_, hB.out⟩
      first | exact hO'.out | (have := hO'.out; rw [← List.map_map] at this; exact this)
end Go.Proofs.YtneagomkohoceaaDoor
