/- What the specification's new memory is. -/
import Derived.Test.YtgpmpfikeindfaaGreatDoorV03
import Derived.Deep.RegionLaw
import Derived.Deep.AppendLies
namespace Go.Proofs.YtgpmpfikeindfaaGreatDoor
open Go.ChangeShapes Go.WideShapes Go.ChangeAt Go.RowKit
set_option linter.unusedVariables false
set_option linter.unusedSimpArgs false

/-- a text's bytes as numbers -/
def romL (s : ByteArray) : List Int := (List.range s.size).map fun i => byt s i
theorem romL_len (s : ByteArray) : (romL s).length = s.size := by simp [romL]
theorem romL_at (s : ByteArray) (i : Nat) (h : i < s.size) : (romL s).getD i 0 = byt s i := by
  simp [romL, List.getD_eq_getElem?_getD, List.getElem?_range h]
def newC (s : ByteArray) : Int := if 65536 < s.size then 2 else if s.size = 64 then 0 else 8
def newM (s : ByteArray) : Mem := if s.size = 64 then ⟨romL s, List.replicate 4 (List.replicate 64 0), 0, 1, false⟩ else mem0
theorem new_ok {s : ByteArray} (h : s.size = 64) : okM (newM s) = true := by
  unfold newM
  rw [if_pos h]
  refine ok_all ?_ rfl (in_yes (by show (0 : Int) ≤ 0; omega) (by show (0 : Int) ≤ 3; omega)) (.inl rfl) (fun i hi => ?_)
  · rw [bytes_all (fun i hi => ?_), romL_len, h]
    · rfl
    · rw [romL_len] at hi
      rw [romL_at s i hi]
      have := byt_bd s i
      exact in_yes this.1 this.2
  · have : i = 0 ∨ i = 1 ∨ i = 2 ∨ i = 3 := by omega
    have hb : bytesB (List.replicate 64 0) 64 = true := by decide +kernel
    rcases this with rfl | rfl | rfl | rfl <;> exact hb
/-- the first k of the bytes -/
def romK (s : ByteArray) (k : Nat) : List Int := (List.range k).map fun i => byt s i
theorem romK_succ (s : ByteArray) (k : Nat) : romK s (k + 1) = romK s k ++ [byt s k] := by
  simp [romK, List.range_succ]
theorem romK_all (s : ByteArray) : romK s s.size = romL s := rfl
/-- while the ROM is being copied -/
def NewSt (w wr : World) (g c : Nat) (s : ByteArray) (k : Nat) : Prop :=
  Blk wr w.heap.size #[.slice none 0 0, .slice none 0 0, .int .i64 0, .int .i64 0, .bool false] ∧ Blk wr (w.heap.size + 1 + 1 + 1) #[.slice (some ⟨g, 0, none⟩) k c, .slice (some ⟨w.heap.size + 1 + 1, 0, none⟩) 0 0, .int .i64 0, .int .i64 1, .bool false] ∧
  wr.ownsRow (w.heap.size + 1) 3 1 (.slice (some ⟨g, 0, none⟩) k c) k ((romK s k).map (Value.int .i64)) ∧ (g = w.heap.size + 1 ∨ w.heap.size + 4 ≤ g) ∧ Below w.heap.size w wr ∧ wr.heap[w.heap.size + 1 + 1]? = some (.cells #[] 27 (0, 0))
theorem NewSt.step {w wr w1 : World} {g c g2 c2 k : Nat} {s : ByteArray} (h : NewSt w wr g c s k) (ho : w1.ownsRow (w.heap.size + 1) 3 1 (.slice (some ⟨g2, 0, none⟩) (k + 1) c2) (k + 1) ((romK s k).map (Value.int .i64) ++ [.int .i64 (byt s k)])) {o : Obj}
    (hg : ((wr.alloc o).drew).grownBy w1 (some g)) (hat : some g = some g2 ∨ g2 = wr.heap.size + 1) : NewSt w (w1.setCell ⟨w.heap.size + 1 + 1 + 1, 0, none⟩ (.slice (some ⟨g2, 0, none⟩) (k + 1) c2)) g2 c2 s (k + 1) ∧ Blk w1 (w.heap.size + 1 + 1 + 1) #[.slice (some ⟨g, 0, none⟩) k c, .slice (some ⟨w.heap.size + 1 + 1, 0, none⟩) 0 0, .int .i64 0, .int .i64 1, .bool false] := by
  obtain ⟨k1, k2, k3, k4, k5, k6⟩ := h
  have hlt := (k3.lt g rfl).2
  have h3 := k2.lt
  have hsz := k5.size
  have hg' : ∀ b, b < wr.heap.size → b ≠ g → w1.heap[b]? = wr.heap[b]? := fun b hb hne => (hg.block b (by simp; omega) (by simpa using hne)).trans (Below.heap_alloc wr o b hb)
  have hs1 : wr.heap.size + 1 ≤ w1.heap.size := by have := hg.size; simpa using this
  have q2 : Blk w1 (w.heap.size + 1 + 1 + 1) #[.slice (some ⟨g, 0, none⟩) k c, .slice (some ⟨w.heap.size + 1 + 1, 0, none⟩) 0 0, .int .i64 0, .int .i64 1, .bool false] := by
    obtain ⟨t, ht⟩ := k2
    exact ⟨t, (hg' _ h3 (by omega)).trans ht⟩
  have q1 : Blk w1 w.heap.size #[.slice none 0 0, .slice none 0 0, .int .i64 0, .int .i64 0, .bool false] := by
    obtain ⟨t, ht⟩ := k1
    exact ⟨t, (hg' _ (by omega) (by omega)).trans ht⟩
  have hB1 : Below w.heap.size w w1 := (k5.alloc k5.size o).drew.grown hg (by simp; omega) (fun b e => by cases e; omega)
  have hg2 : g2 = w.heap.size + 1 ∨ w.heap.size + 4 ≤ g2 := by
    rcases hat with e | e
    · injection e with e
      omega
    · omega
  refine ⟨⟨q1.other (by simp; omega) _, ?_, ?_, hg2, hB1.setCell (p := ⟨w.heap.size + 1 + 1 + 1, 0, none⟩) (by simp; omega) _, ?_⟩, q2⟩
  · have := q2.set 0 (.slice (some ⟨g2, 0, none⟩) (k + 1) c2)
    simpa using this
  · rw [romK_succ, List.map_append]
    exact ownsRow_setCell_other ho (by simp [Value.ownBlock]; omega) _
  · rw [Below.heap_setCell _ _ _ _ (by simp)]
    exact (hg' _ (by omega) (by omega)).trans k6
theorem NewSt.start (w : World) (s : ByteArray) : NewSt w ((((w.alloc (.cells #[.slice none 0 0, .slice none 0 0, .int .i64 0, .int .i64 0, .bool false] 30)).alloc (.cells #[] 3)).alloc (.cells #[] 27)).alloc (.cells #[.slice (some ⟨w.heap.size + 1, 0, none⟩) 0 0, .slice (some ⟨w.heap.size + 1 + 1, 0, none⟩) 0 0, .int .i64 0, .int .i64 1, .bool false] 30)) (w.heap.size + 1) 0 s 0 := by
  have q3 := Blk.new (((w.alloc (.cells #[.slice none 0 0, .slice none 0 0, .int .i64 0, .int .i64 0, .bool false] 30)).alloc (.cells #[] 3)).alloc (.cells #[] 27)) #[.slice (some ⟨w.heap.size + 1, 0, none⟩) 0 0, .slice (some ⟨w.heap.size + 1 + 1, 0, none⟩) 0 0, .int .i64 0, .int .i64 1, .bool false] 30
  simp only [World.size_alloc] at q3
  have r := World.ownsRow_lit (base := w.heap.size + 1) (e := 3) (size := 1) (w.alloc (.cells #[.slice none 0 0, .slice none 0 0, .int .i64 0, .int .i64 0, .bool false] 30)) #[] 0 (by simp) (by decide) rfl
  simp only [World.size_alloc] at r
  refine ⟨(((Blk.new w _ _).alloc _).alloc _).alloc _, q3, (r.alloc _).alloc _, .inl rfl, ((((Below.refl _ _).alloc (Nat.le_refl _) _).alloc (by simp) _).alloc (by simp; omega) _).alloc (by simp; omega) _, ?_⟩
  rw [Below.heap_alloc _ _ _ (by simp)]
  have := heap_alloc_new ((w.alloc (.cells #[.slice none 0 0, .slice none 0 0, .int .i64 0, .int .i64 0, .bool false] 30)).alloc (.cells #[] 3)) (.cells #[] 27)
  simpa using this
/-- the RAM of a new memory -/
def ram4 : List (List Int) := List.replicate 4 (List.replicate 64 0)
theorem ram4_at (k : Nat) (h : k < 4) : ram4.getD k [] = List.replicate 64 0 := by
  have : k = 0 ∨ k = 1 ∨ k = 2 ∨ k = 3 := by omega
  rcases this with rfl | rfl | rfl | rfl <;> rfl
/-- while the banks are being made -/
def NewS2 (w wr : World) (g c : Nat) (s : ByteArray) (s2 c2 k : Nat) : Prop :=
  Blk wr w.heap.size #[.slice none 0 0, .slice none 0 0, .int .i64 0, .int .i64 0, .bool false] ∧ Blk wr (w.heap.size + 1 + 1 + 1) #[.slice (some ⟨g, 0, none⟩) s.size c, .slice (some ⟨s2, 0, none⟩) k c2, .int .i64 0, .int .i64 1, .bool false] ∧
  RowO wr g (.slice (some ⟨g, 0, none⟩) s.size c) (romL s) ∧ Gath wr (w.heap.size + 1 + 1) g 27 (.slice (some ⟨s2, 0, none⟩) k c2) ram4 k ∧ (s2 = w.heap.size + 1 + 1 ∨ w.heap.size + 4 ≤ s2) ∧ (w.heap.size + 1 ≤ g ∧ g ≠ w.heap.size + 1 + 1 + 1) ∧ Below w.heap.size w wr
theorem NewSt.next {w wr : World} {g c : Nat} {s : ByteArray} (h : NewSt w wr g c s s.size) (h64 : s.size = 64) : NewS2 w wr g c s (w.heap.size + 1 + 1) 0 0 := by
  obtain ⟨k1, k2, k3, k4, k5, k6⟩ := h
  rw [romK_all] at k3
  obtain ⟨r, hge, _⟩ := RowO.of_owns' k3 (by omega)
  refine ⟨k1, k2, r, ⟨fun _ => 0, fun _ => .slice none 0 0, ?_, fun i hi => by omega, fun i j hi => by omega, fun i hi => by omega, by simp [Value.ownBlock]; omega⟩, .inl rfl, ⟨hge, by omega⟩, k5⟩
  exact ⟨rfl, .inr ⟨w.heap.size + 1 + 1, 0, #[], rfl, Nat.le_refl _, k6, Nat.le_refl _, by decide, rfl, rfl⟩⟩
theorem NewS2.step {w wr w1 : World} {g c s2 c2 s3 c3 k : Nat} {s : ByteArray} {V : Nat → Value} (h : NewS2 w wr g c s s2 c2 k) (hk : k < 4) (hV : wr.ownsRow (w.heap.size + 1 + 1) 27 1 (.slice (some ⟨s2, 0, none⟩) k c2) k ((List.range k).map V))
    (ho : w1.ownsRow (w.heap.size + 1 + 1) 27 1 (.slice (some ⟨s3, 0, none⟩) (k + 1) c3) (k + 1) ((List.range k).map V ++ [.slice (some ⟨wr.heap.size, 0, none⟩) 64 64])) {o : Obj}
    (hg : (((wr.alloc (.cells (madeCells #[.int .i64 0] 64) 3)).alloc o).drew).grownBy w1 (some s2)) (hat : some s2 = some s3 ∨ s3 = wr.heap.size + 1 + 1) :
    NewS2 w (w1.setCell ⟨w.heap.size + 1 + 1 + 1, 1, none⟩ (.slice (some ⟨s3, 0, none⟩) (k + 1) c3)) g c s s3 c3 (k + 1) ∧ Blk w1 (w.heap.size + 1 + 1 + 1) #[.slice (some ⟨g, 0, none⟩) s.size c, .slice (some ⟨s2, 0, none⟩) k c2, .int .i64 0, .int .i64 1, .bool false] := by
  obtain ⟨k1, k2, k3, k4, k5, k6, k7⟩ := h
  have hlt := (hV.lt s2 rfl).2
  have h3 := k2.lt
  have hsz := k7.size
  have hgl := k3.lt
  have hne : s2 ≠ g := by
    obtain ⟨_, _, _, _, _, _, hub⟩ := k4
    intro e
    exact hub (by rw [e]; rfl)
  have hb0 : Below wr.heap.size wr (((wr.alloc (.cells (madeCells #[.int .i64 0] 64) 3)).alloc o).drew) := (((Below.refl _ _).alloc (Nat.le_refl _) _).alloc (by simp) _).drew
  have hg' : ∀ b, b < wr.heap.size → b ≠ s2 → w1.heap[b]? = wr.heap[b]? := fun b hb hn => (hg.block b (by simp; omega) (by simpa using hn)).trans (hb0.block b hb)
  have hr0 : RowO (((wr.alloc (.cells (madeCells #[.int .i64 0] 64) 3)).alloc o).drew) wr.heap.size (.slice (some ⟨wr.heap.size, 0, none⟩) 64 64) (ram4.getD k []) := by
    rw [ram4_at k hk]
    refine ⟨64, madeCells #[.int .i64 0] 64, 3, by rw [List.length_replicate], (Below.heap_alloc _ _ _ (by simp)).trans (heap_alloc_new wr _), fun i hi => ?_⟩
    rw [List.length_replicate] at hi
    rw [← Array.getElem?_toList, toList_madeCells_one, List.getElem?_replicate, if_pos hi, List.getD_eq_getElem?_getD, List.getElem?_replicate, if_pos hi]
    rfl
  have hs3 : s3 = w.heap.size + 1 + 1 ∨ w.heap.size + 4 ≤ s3 := by
    rcases hat with e | e
    · injection e with e
      omega
    · omega
  have hG := k4.step hgl hV (by omega) hr0 (Nat.le_refl _) hb0 ho hg (hat.imp id (fun e => by simp; omega))
  have q2 : Blk w1 (w.heap.size + 1 + 1 + 1) #[.slice (some ⟨g, 0, none⟩) s.size c, .slice (some ⟨s2, 0, none⟩) k c2, .int .i64 0, .int .i64 1, .bool false] := by
    obtain ⟨t, ht⟩ := k2
    exact ⟨t, (hg' _ h3 (by omega)).trans ht⟩
  have q1 : Blk w1 w.heap.size #[.slice none 0 0, .slice none 0 0, .int .i64 0, .int .i64 0, .bool false] := by
    obtain ⟨t, ht⟩ := k1
    exact ⟨t, (hg' _ (by omega) (by omega)).trans ht⟩
  have hB1 : Below w.heap.size w w1 := (k7.trans (hb0.mono k7.size)).grown hg (by simp; omega) (fun b e => by cases e; omega)
  refine ⟨⟨q1.other (by simp; omega) _, ?_, ?_, ?_, hs3, k6, hB1.setCell (p := ⟨w.heap.size + 1 + 1 + 1, 1, none⟩) (by simp; omega) _⟩, q2⟩
  · have := q2.set 1 (.slice (some ⟨s3, 0, none⟩) (k + 1) c3)
    simpa using this
  · exact k3.kept ((Below.heap_setCell _ _ _ _ (by simp; omega)).trans (hg' g hgl (fun e => hne e.symm)))
  · obtain ⟨G, V', j1, j2, j3, j4, j5⟩ := hG
    refine ⟨G, V', ownsRow_setCell_other j1 (by simp [Value.ownBlock]; omega) _, fun i hi => ?_, j3, j4, j5⟩
    obtain ⟨i1, i2, i3, i4⟩ := j2 i hi
    refine ⟨i1.kept (Below.heap_setCell _ _ _ _ ?_), i2, by rw [sizeSet]; exact i3, i4⟩
    intro e
    have e : G i = w.heap.size + 1 + 1 + 1 := e
    obtain ⟨cu, cc, ct, hvv, hcc, hall⟩ := id i1
    obtain ⟨tt, htt⟩ := q2
    rw [e, htt] at hcc
    have hc : cc = #[.slice (some ⟨g, 0, none⟩) s.size c, .slice (some ⟨s2, 0, none⟩) k c2, .int .i64 0, .int .i64 1, .bool false] := by
      have := Option.some.inj hcc
      injection this with h _ _
      exact h.symm
    have h0 := hall 0 (by rw [ram4_at i (by omega)]; simp)
    rw [hc] at h0
    simp at h0
theorem NewS2.memO {w wr W' : World} {g c s2 c2 : Nat} {s : ByteArray} (h : NewS2 w wr g c s s2 c2 4) (h64 : s.size = 64) (hk : ∀ b, w.heap.size < b → b < wr.heap.size → W'.heap[b]? = wr.heap[b]?) (hs : wr.heap.size ≤ W'.heap.size) :
    MemO W' w.heap.size W'.heap.size (memV (.slice (some ⟨g, 0, none⟩) s.size c) (.slice (some ⟨s2, 0, none⟩) 4 c2) 0 1 false) (newM s) := by
  obtain ⟨k1, k2, k3, k4, k5, k6, k7⟩ := h
  obtain ⟨sp, G, h1, h2, h3, h4, h5, h6, h7⟩ := Gath.doneR (zss := ram4) k4 (by decide)
  have hgl := k3.lt
  unfold newM
  rw [if_pos h64]
  refine .inr ⟨_, _, g, sp, G, rfl, k3.kept (hk g (by omega) hgl), h1.kept (hk sp (by omega) h2.2) (fun i hi => hk _ (by have := h3 i hi; omega) (h3 i hi).2), by omega, by omega, fun i hi => by have := h3 i hi; show _ ∧ _; omega, fun e => h7 e.symm, fun i hi => ⟨h6 i hi, h4 i hi⟩, h5⟩
set_option maxRecDepth 100000 in
set_option maxHeartbeats 2000000 in
theorem new_spec (s : ByteArray) (w : World) (hs : s.size ≤ maxLen) :
    Calls Tryz.prog 39 #[.string s] w fun e w' => ∃ u, e = .returned (.tuple #[u, .int .i64 (newC s)]) ∧ MemO w' w.heap.size w'.heap.size u (newM s) ∧ Below w.heap.size w w' := by
  unfold maxLen at hs
  by_cases h1 : 65536 < s.size
  · have e1 : newC s = 2 := by unfold newC; rw [if_pos h1]
    have e2 : newM s = mem0 := by unfold newM; rw [if_neg (by omega)]
    rw [e1, e2]
    go_enter Tryz.func39, Tryz.ntmps39
    go_wp2
    refine bodyPost_ret (v := .tuple #[memV (.slice none 0 0) (.slice none 0 0) 0 0 false, .int .i64 2]) (by simp [results, Tryz.results39, go_sem]) rfl ⟨_, rfl, MemO.zero _ _ _, ?_⟩
    exact (Below.refl _ _).alloc (Nat.le_refl _) _
  by_cases h2 : s.size = 64
  rotate_left
  · have e1 : newC s = 8 := by unfold newC; rw [if_neg h1, if_neg h2]
    have e2 : newM s = mem0 := by unfold newM; rw [if_neg h2]
    have h2' : ((s.size : Int) != 64) = true := by simp; omega
    rw [e1, e2]
    clear h2
    go_enter Tryz.func39, Tryz.ntmps39
    go_wp2
    refine bodyPost_ret (v := .tuple #[memV (.slice none 0 0) (.slice none 0 0) 0 0 false, .int .i64 8]) (by simp [results, Tryz.results39, go_sem]) rfl ⟨_, rfl, MemO.zero _ _ _, ?_⟩
    exact (Below.refl _ _).alloc (Nat.le_refl _) _
  obtain ⟨i0, hi0, hz0, hz1, hz2⟩ := info_parts infoI1
  obtain ⟨i1, hi1, hy0, hy1, hy2⟩ := info_parts infoI2
  have e1 : newC s = 0 := by unfold newC; rw [if_neg h1, if_pos h2]
  have h2' : ((s.size : Int) != 64) = false := by simp; omega
  rw [e1]
  have h64 := hid h2
  clear h2 e1
  have hmk := fun W => run_make_row' (P := Tryz.prog) 27 3 (.int .i64 0) 8 Tryz.underlying27 infoI1 rfl .i64 .i64 64 (by omega) (by omega) W
  have h1' : decide ((65536 : Int) < (s.size : Int)) = false := by simp; omega
  have h0 := hid (NewSt.start w s)
  go_enter Tryz.func39, Tryz.ntmps39
  go_wp2
  go_loopw [5] (fun i wr => ∃ k g c : Nat, k ≤ s.size ∧ i = .int .i64 k ∧ NewSt w wr g c s k) (fun i _ => s.size - (intOf i).toNat)
  case atStart => exact ⟨0, _, _, by omega, rfl, h0.out⟩
  case round =>
    obtain ⟨k, g, c, hk, rfl, hS⟩ := hrel
    by_cases hlt : k < s.size
    · have hid1 := run_idx s (k : Int) k rfl hlt
      have hbd := byt_bd s k
      have hown := hS.2.2.1
      have x3 := hS.2.1.cell
      have f3 := hS.2.1.frozen
      have h3 := hS.2.1.lt
      have hstep : Hid (∀ w1 g2 c2 o, w1.ownsRow (w.heap.size + 1) 3 1 (.slice (some ⟨g2, 0, none⟩) (k + 1) c2) (k + 1) ((romK s k).map (Value.int .i64) ++ [.int .i64 (byt s k)]) → ((wr.alloc o).drew).grownBy w1 (some g) → (some g = some g2 ∨ g2 = wr.heap.size + 1) → _) := fun w1 g2 c2 o a1 a2 a3 => hS.step a1 a2 a3
      have hwr : IntKind.i64.wrap (byt s k) = byt s k := by rw [IntKind.wrap_i64]; omega
      have hk0 : (0 : Int) ≤ (k : Int) := Int.natCast_nonneg _
      have hk1 : (k : Int) < (s.size : Int) := by omega
      have hsm : s.size = 64 := h64.out
      have hk64 : k < 64 := by omega
      clear hS hsm
      generalize byt s k = z at *
      go_wp2_with fail
      go_region_law ((refine step_append_lies _ (by rfl) _ _ _ (by rfl) (w.heap.size + 1) 3 i0 _ 1 8 Tryz.underlying27 hi0 hz0 hz1 hz2 rfl (by omega) _ k ((romK s k).map (Value.int .i64)) (by rfl) ((hown.alloc _).drew) ⟨wr.heap.size, 0, none⟩ 1 1 [.int .i64 z] (by rfl) (by rfl) (World.news_of_block (cs := #[.int .i64 z]) (t := 3) (fr := (0, 0)) (heap_alloc_new wr _)) (by simp [Value.oneCell']) (by omega) (by unfold maxLen; omega) (by omega) (by simp; omega) (wr.heap.size + 1) (by simp) ?_; intro gg cap w1 hown1 hgrow hat hlt1; obtain ⟨hN, hq⟩ := hstep.out w1 gg cap _ hown1 hgrow hat; have y3 := hq.cell; have yf := hq.frozen; replace hN := hid hN; clear hown1 hgrow hat hq))
      all_goals
        go_wp2
        go_roundw
        case rel => exact ⟨k + 1, _, _, by omega, by go_num, hN.out⟩
        case measure => simp [intOf]; omega
    · obtain rfl : k = s.size := by omega
      have hS2 := hid (hS.next h64.out)
      clear hS h0
      go_wp2
      go_loopw [6] (fun i wr => ∃ k s2 c2 : Nat, k ≤ 4 ∧ i = .int .i64 k ∧ NewS2 w wr g c s s2 c2 k) (fun i _ => 4 - (intOf i).toNat)
      case atStart => exact ⟨0, _, _, by omega, rfl, hS2.out⟩
      case round =>
        obtain ⟨k, s2, c2, hk, rfl, hT⟩ := hrel
        by_cases hlt : k < 4
        · have x3 := hT.2.1.cell
          have f3 := hT.2.1.frozen
          have h3 := hT.2.1.lt
          obtain ⟨V, hV⟩ := hT.2.2.2.1.own
          have hstep : Hid (∀ w1 s3 c3 o, w1.ownsRow (w.heap.size + 1 + 1) 27 1 (.slice (some ⟨s3, 0, none⟩) (k + 1) c3) (k + 1) ((List.range k).map V ++ [.slice (some ⟨wr.heap.size, 0, none⟩) 64 64]) → (((wr.alloc (.cells (madeCells #[.int .i64 0] 64) 3)).alloc o).drew).grownBy w1 (some s2) → (some s2 = some s3 ∨ s3 = wr.heap.size + 1 + 1) → _) := fun w1 s3 c3 o a1 a2 a3 => hT.step hlt hV a1 a2 a3
          have hmk1 : ∀ W : World, (Instr.makeSlice 27 (.int .i64 64) (.int .i64 64)).run Tryz.prog W = .ok (.slice (some ⟨W.heap.size, 0, none⟩) 64 64) (W.alloc (.cells (madeCells #[.int .i64 0] 64) 3)) := fun W => hmk W
          have hnw : w.heap.size + 1 + 1 ≤ wr.heap.size := by omega
          clear hT hmk hS2
          generalize madeCells #[.int .i64 0] 64 = MC at *
          have h3' : w.heap.size + 1 + 1 + 1 < wr.heap.size + 1 := by omega
          have hnews : Hid ((((wr.alloc (.cells MC 3)).alloc (.cells #[.slice (some ⟨wr.heap.size, 0, none⟩) 64 64] 27)).drew).heap[wr.heap.size + 1]? = some (.cells #[.slice (some ⟨wr.heap.size, 0, none⟩) 64 64] 27 (0, 0))) := by
            have := heap_alloc_new (wr.alloc (.cells MC 3)) (.cells #[.slice (some ⟨wr.heap.size, 0, none⟩) 64 64] 27)
            rw [World.size_alloc] at this
            exact this
          go_wp2_with fail
          go_region_law ((refine step_append_lies _ (by rfl) _ _ _ (by rfl) (w.heap.size + 1 + 1) 27 i1 _ 1 24 Tryz.underlying28 hi1 hy0 hy1 hy2 rfl (by omega) _ k ((List.range k).map V) (by rfl) (((hV.alloc _).alloc _).drew) ⟨wr.heap.size + 1, 0, none⟩ 1 1 [.slice (some ⟨wr.heap.size, 0, none⟩) 64 64] (by rfl) (by rfl) (World.news_of_block (cs := #[.slice (some ⟨wr.heap.size, 0, none⟩) 64 64]) (t := 27) (fr := (0, 0)) hnews.out) (by simp [Value.oneCell']) (by omega) (by unfold maxLen; omega) (by omega) (by simp; omega) (wr.heap.size + 1 + 1) (by simp) ?_; intro gg cap w1 hown1 hgrow hat hlt1; obtain ⟨hN, hq⟩ := hstep.out w1 gg cap _ hown1 hgrow hat; have y3 := hq.cell; have yf := hq.frozen; replace hN := hid hN; clear hown1 hgrow hat hq))
          all_goals
            go_wp2
            go_roundw
            case rel => exact ⟨k + 1, _, _, by omega, by go_num, hN.out⟩
            case measure => simp [intOf]; omega
        · obtain rfl : k = 4 := by omega
          have x0 := hT.1.cell
          have f0 := hT.1.frozen
          have x3 := hT.2.1.cell
          have h3 := hT.2.1.lt
          have hB := hid hT.2.2.2.2.2.2
          replace hT := hid hT
          clear hS2
          go_wp2
          refine bodyPost_ret (v := .tuple #[memV (.slice (some ⟨g, 0, none⟩) s.size c) (.slice (some ⟨s2, 0, none⟩) 4 c2) 0 1 false, .int .i64 0]) (by simp [results, Tryz.results39, go_sem, x0]) rfl ⟨_, rfl, ?_, ?_⟩
          · refine hT.out.memO h64.out (fun b hb1 hb2 => ?_) (by (iterate 5 rw [sizeSet]); exact Nat.le_refl _)
            iterate 5 rw [Below.heap_setCell _ _ _ _ (by simp; omega)]
          · iterate 5 refine Below.setCell ?_ (by first | omega | (simp; done) | (simp; omega)) _
            exact hB.out
end Go.Proofs.YtgpmpfikeindfaaGreatDoor
