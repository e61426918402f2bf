/- What the program's copies answer: a bank's, and a memory's, in blocks of its own. -/
import Derived.Test.YtgpmpfikeindfaaGreatDoorV20
import Derived.Test.YtgpmpfikeindfaaGreatDoorV03
import Derived.OwnWalk
import Derived.Deep.RegionWith
namespace Go.Proofs.YtgpmpfikeindfaaGreatDoor
open Go.ChangeShapes Go.WideShapes Go.ChangeAt Go.RowKit
set_option linter.unusedVariables false
set_option linter.unusedSimpArgs false

/-- a row of its own at the end of the heap, and a bank that points to it behind it -/
structure Copied (w w' : World) (zs : List Int) : Prop where
  bank : Blk w' (w.heap.size + 1) #[.slice (some ⟨w.heap.size, 0, none⟩) zs.length zs.length]
  row : RowO w' w.heap.size (.slice (some ⟨w.heap.size, 0, none⟩) zs.length zs.length) zs
  bel : Below w.heap.size w w'
theorem ret_ptr {a b : Nat} (h : a = b) : Ending.returned (.pointer (some ⟨a, 0, none⟩)) = Ending.returned (.pointer (some ⟨b, 0, none⟩)) := by rw [h]
/-- one row more, wherever it was made -/
theorem Built.stepG {w wr w1 : World} {zss : List (List Int)} {k g : Nat} {u : Value} (h : Built w wr zss k) (hk : k < zss.length) (hr : RowO w1 g u (zss.getD k [])) (hg : wr.heap.size ≤ g) (hb : Below wr.heap.size wr w1) :
    Built w (w1.setCell ⟨w.heap.size, k, none⟩ u) zss (k + 1) := by
  have hl := h.lt
  obtain ⟨c, t, G, V, h1, h2, h3, h4⟩ := h
  have h1' : w1.heap[w.heap.size]? = some (.cells c t (0, 0)) := (hb.block _ hl).trans h1
  have hs : (w1.setCell ⟨w.heap.size, k, none⟩ u).heap.size = w1.heap.size := by simp [World.setCell]
  have hlt := hr.lt
  refine ⟨c.setIfInBounds k u, t, fun i => if i = k then g else G i, fun i => if i = k then u else V i, heap_setCell_same' _ _ _ _ _ _ h1', by simpa using h2, fun i hi => ?_, fun i j hi hj e => ?_⟩
  · by_cases e : i = k
    · subst e
      simp only [if_true, hs]
      refine ⟨by rw [Array.getElem?_setIfInBounds]; simp; omega, hr.kept (Below.heap_setCell _ _ _ _ (by simp; omega)), by omega, hlt⟩
    · simp only [if_neg e, hs]
      obtain ⟨k1, k2, k3, k4⟩ := h3 i (by omega)
      refine ⟨by rw [Array.getElem?_setIfInBounds, if_neg (fun h => e h.symm)]; exact k1, k2.kept ((Below.heap_setCell _ _ _ _ (by simp; omega)).trans (hb.block _ k4)), k3, by have := hb.size; omega⟩
  · by_cases e1 : i = k
    · by_cases e2 : j = k
      · rw [e1, e2]
      · simp only [if_pos e1, if_neg e2] at e
        have := (h3 j (by omega)).2.2.2
        omega
    · by_cases e2 : j = k
      · simp only [if_neg e1, if_pos e2] at e
        have := (h3 i (by omega)).2.2.2
        omega
      · simp only [if_neg e1, if_neg e2] at e
        exact h4 i j (by omega) (by omega) e
theorem Built.keptB {w wr w' : World} {zss : List (List Int)} {k : Nat} (h : Built w wr zss k) (hs : wr.heap.size ≤ w'.heap.size) (hk : ∀ b, w.heap.size ≤ b → b < wr.heap.size → w'.heap[b]? = wr.heap[b]?) : Built w w' zss k := by
  have hl := h.lt
  obtain ⟨c, t, G, V, h1, h2, h3, h4⟩ := h
  exact ⟨c, t, G, V, (hk _ (Nat.le_refl _) hl).trans h1, h2, fun i hi => by
    obtain ⟨k1, k2, k3, k4⟩ := h3 i hi
    exact ⟨k1, k2.kept (hk _ (by omega) k4), k3, by omega⟩, h4⟩
/-- a memory in blocks of its own, told by their numbers -/
structure Lies (w : World) (lo hi r s : Nat) (G : Nat → Nat) (M : Mem) : Prop where
  rom : RowO w r (.slice (some ⟨r, 0, none⟩) M.rom.length M.rom.length) M.rom
  ram : RowsO w s G (.slice (some ⟨s, 0, none⟩) M.ram.length M.ram.length) M.ram
  br : lo ≤ r ∧ r < hi
  bs : lo ≤ s ∧ s < hi
  bg : ∀ i, i < M.ram.length → lo ≤ G i ∧ G i < hi
  rs : r ≠ s
  gn : ∀ i, i < M.ram.length → G i ≠ r ∧ G i ≠ s
  inj : ∀ i j, i < M.ram.length → j < M.ram.length → G i = G j → i = j
theorem Lies.memO {w : World} {lo hi r s : Nat} {G : Nat → Nat} {M : Mem} (h : Lies w lo hi r s G M) : MemO w lo hi (memV (.slice (some ⟨r, 0, none⟩) M.rom.length M.rom.length) (.slice (some ⟨s, 0, none⟩) M.ram.length M.ram.length) M.page M.screen M.locked) M :=
  .inr ⟨_, _, r, s, G, rfl, h.rom, h.ram, h.br, h.bs, h.bg, h.rs, h.gn, h.inj⟩
theorem Lies.kept {w w' : World} {lo hi r s : Nat} {G : Nat → Nat} {M : Mem} (h : Lies w lo hi r s G M) (k : ∀ b, lo ≤ b → b < hi → w'.heap[b]? = w.heap[b]?) : Lies w' lo hi r s G M :=
  ⟨h.rom.kept (k _ h.br.1 h.br.2), h.ram.kept (k _ h.bs.1 h.bs.2) (fun i hi => k _ (h.bg i hi).1 (h.bg i hi).2), h.br, h.bs, h.bg, h.rs, h.gn, h.inj⟩
/-- while the rows of a memory are being copied -/
structure CmSt (w w6 wr : World) (r : Nat) (A0 A2 : Array Value) (M : Mem) (k : Nat) : Prop where
  q0 : Blk wr w.heap.size A0
  q1 : Blk wr (w.heap.size + 1) #[.slice none 0 0, .slice none 0 0, .int .i64 0, .int .i64 0, .bool false]
  q2 : Blk wr (w.heap.size + 1 + 1) A2
  row : RowO wr r (.slice (some ⟨r, 0, none⟩) M.rom.length M.rom.length) M.rom
  ord : w.heap.size + 1 + 1 < r ∧ r < w6.heap.size
  built : Built w6 wr M.ram k
  bel : Below w.heap.size w wr
theorem CmSt.step {w w6 wr w1 : World} {r : Nat} {A0 A2 : Array Value} {M : Mem} {k g : Nat} {u : Value} (h : CmSt w w6 wr r A0 A2 M k) (hk : k < M.ram.length) (hr : RowO w1 g u (M.ram.getD k [])) (hg : wr.heap.size ≤ g) (hb : Below wr.heap.size wr w1) :
    CmSt w w6 (w1.setCell ⟨w6.heap.size, k, none⟩ u) r A0 A2 M (k + 1) := by
  obtain ⟨q0, q1, q2, row, ord, built, bel⟩ := h
  have hl := built.lt
  exact ⟨(q0.below hb (by omega)).other (by simp; omega) _, (q1.below hb (by omega)).other (by simp; omega) _, (q2.below hb (by omega)).other (by simp; omega) _, row.kept ((Below.heap_setCell _ _ _ _ (by simp; omega)).trans (hb.block _ (by omega))), ord, built.stepG hk hr hg hb, (bel.trans (hb.mono bel.size)).setCell (p := ⟨w6.heap.size, k, none⟩) (by simp; omega) _⟩
theorem CmSt.lies {w w6 wr W' : World} {r : Nat} {A0 A2 : Array Value} {M : Mem} (h : CmSt w w6 wr r A0 A2 M M.ram.length) (hs : wr.heap.size ≤ W'.heap.size) (hk : ∀ b, w.heap.size + 1 + 1 < b → b < wr.heap.size → W'.heap[b]? = wr.heap[b]?) : ∃ G, Lies W' w.heap.size W'.heap.size r w6.heap.size G M := by
  obtain ⟨q0, q1, q2, row, ord, built, bel⟩ := h
  have hl := built.lt
  obtain ⟨c, t, G, V, h1, h2, h3, h4⟩ := built
  refine ⟨G, row.kept (hk _ ord.1 (by omega)), ⟨_, c, t, V, rfl, (hk _ (by omega) hl).trans h1, fun i hi => (h3 i hi).1, fun i hi => (h3 i hi).2.1.kept (hk _ (by have := (h3 i hi).2.2.1; omega) (h3 i hi).2.2.2)⟩, by omega, by omega, fun i hi => by have := (h3 i hi).2.2; omega, by omega, fun i hi => by have := (h3 i hi).2.2; omega, h4⟩
set_option maxRecDepth 100000 in
theorem copied_impl (p : Nat) (a : Option Addr) (cap : Nat) (zs : List Int) (w : World) (hp : w.cell? ⟨p, 0, none⟩ = some (.slice a zs.length cap)) (h : RowR w (.slice a zs.length cap) zs) (hl : zs.length ≤ 1000000000) :
    Calls Tryz.prog 122 #[.pointer (some ⟨p, 0, none⟩)] w fun e w' => e = .returned (.pointer (some ⟨w.heap.size + 1, 0, none⟩)) ∧ Copied w w' zs := by
  replace h := hid h.disj
  have hpl := World.block_lt_of_cell? w _ hp
  dsimp only at hpl
  have hmk := fun W => run_make_row' (P := Tryz.prog) 27 3 (.int .i64 0) 8 Tryz.underlying27 infoM rfl .i64 .i64 zs.length (by omega) (by omega) W
  have h0 : Hid (RowO (w.alloc (.cells (madeCells #[.int .i64 0] zs.length) 3)) w.heap.size (.slice (some ⟨w.heap.size, 0, none⟩) zs.length zs.length) (cpL zs 0)) := cpL_made w zs _
  have hall : Hid (cpL zs zs.length = zs) := cpL_all zs
  generalize madeCells #[.int .i64 0] zs.length = MC at *
  go_enter Tryz.func122, Tryz.ntmps122
  go_wp2
  clear hmk
  go_loopw [17] (fun i wr => ∃ k : Nat, k ≤ zs.length ∧ i = .int .i64 k ∧ RowO wr w.heap.size (.slice (some ⟨w.heap.size, 0, none⟩) zs.length zs.length) (cpL zs k) ∧ Below w.heap.size w wr ∧ wr.heap.size = w.heap.size + 1) (fun i _ => zs.length - (intOf i).toNat)
  case atStart => exact ⟨0, by omega, rfl, h0.out, (Below.refl _ _).alloc (Nat.le_refl _) _, by simp⟩
  case round =>
    obtain ⟨k, hk, rfl, hM, hB, hsz⟩ := hrel
    replace hsz := hid hsz
    clear h0 hp hpl
    by_cases hlt : k < zs.length
    · obtain ⟨b, off, rfl, c1⟩ := row_some h.out hlt
      have hb := World.block_lt_of_cell? w _ c1
      have c2 : wr.cell? ⟨b, off + k, none⟩ = some (.int .i64 (zs.getD k 0)) := by rw [hB.cell (p := ⟨b, off + k, none⟩) hb]; exact c1
      have hx := hM.cell k (by rw [cpL_len]; exact hlt)
      have hfr := hM.frozen k
      generalize (cpL zs k).getD k 0 = x at hx
      have hM2 : Hid (RowO (wr.setCell ⟨w.heap.size, k, none⟩ (.int .i64 (zs.getD k 0))) w.heap.size (.slice (some ⟨w.heap.size, 0, none⟩) zs.length zs.length) (cpL zs (k + 1)) ∧ Below w.heap.size w (wr.setCell ⟨w.heap.size, k, none⟩ (.int .i64 (zs.getD k 0))) ∧ (wr.setCell ⟨w.heap.size, k, none⟩ (.int .i64 (zs.getD k 0))).heap.size = w.heap.size + 1) :=
        ⟨by rw [← cpL_succ zs k hlt]; exact hM.set k _, hB.setCell (p := ⟨w.heap.size, k, none⟩) (Nat.le_refl _) _, by rw [sizeSet]; exact hsz.out⟩
      clear hM hB c1 hb h
      generalize zs.getD k 0 = z at *
      go_wp2
      go_roundw
      case rel => exact ⟨k + 1, by omega, by go_num, hM2.out⟩
      case measure => simp [intOf]; omega
    · obtain rfl : k = zs.length := by omega
      have hE : Hid (wr.heap.size = w.heap.size + 1 ∧ ∀ t, Copied w (wr.alloc (.cells #[.slice (some ⟨w.heap.size, 0, none⟩) zs.length zs.length] t)) zs) := ⟨hsz.out, fun t => ⟨by
        have := Blk.new wr #[.slice (some ⟨w.heap.size, 0, none⟩) zs.length zs.length] t
        rw [hsz.out] at this
        exact this, by
        rw [hall.out] at hM
        exact hM.kept (Below.heap_alloc _ _ _ (by rw [hsz.out]; omega)), hB.alloc hB.size _⟩⟩
      clear hM hB hsz
      go_wp2
      go_ret
      exact ⟨ret_ptr hE.out.1, hE.out.2 _⟩
end Go.Proofs.YtgpmpfikeindfaaGreatDoor

/- What the program's copy of a memory answers. -/
namespace Go.Proofs.YtgpmpfikeindfaaGreatDoor
open Go.ChangeShapes Go.WideShapes Go.ChangeAt Go.RowKit
set_option linter.unusedVariables false
set_option linter.unusedSimpArgs false

theorem fourB_new {w w1 : World} {A0 A1 A2 : Array Value} {t t1 t2 : TypeId} {o : Obj} (hb : Below ((((w.alloc (.cells A0 t)).alloc (.cells A1 t1)).alloc (.cells A2 t2)).alloc o).heap.size ((((w.alloc (.cells A0 t)).alloc (.cells A1 t1)).alloc (.cells A2 t2)).alloc o) w1) :
    Blk w1 w.heap.size A0 ∧ Blk w1 (w.heap.size + 1) A1 ∧ Blk w1 (w.heap.size + 1 + 1) A2 ∧ Below w.heap.size w w1 := by
  have hs : ((((w.alloc (.cells A0 t)).alloc (.cells A1 t1)).alloc (.cells A2 t2)).alloc o).heap.size = w.heap.size + 1 + 1 + 1 + 1 := by simp
  have q1 := Blk.new (w.alloc (.cells A0 t)) A1 t1
  have q2 := Blk.new ((w.alloc (.cells A0 t)).alloc (.cells A1 t1)) A2 t2
  simp only [World.size_alloc] at q1 q2
  refine ⟨((((Blk.new w A0 t).alloc _).alloc _).alloc _).below hb (by omega), ((q1.alloc _).alloc _).below hb (by omega), (q2.alloc _).below hb (by omega), ?_⟩
  exact (((((Below.refl _ _).alloc (Nat.le_refl _) _).alloc (by simp) _).alloc (by simp; omega) _).alloc (by simp; omega) _).trans (hb.mono (by omega))
theorem CmSt.start {w w1 : World} {r : Nat} {A0 A2 : Array Value} {u0 u1 : Value} {M : Mem} {t : TypeId} (q0 : Blk w1 w.heap.size A0) (q1 : Blk w1 (w.heap.size + 1) #[.slice none 0 0, .slice none 0 0, .int .i64 0, .int .i64 0, .bool false]) (q2 : Blk w1 (w.heap.size + 1 + 1) A2)
    (row : RowO w1 r (.slice (some ⟨r, 0, none⟩) M.rom.length M.rom.length) M.rom) (hr : w.heap.size + 1 + 1 < r) (bel : Below w.heap.size w w1) :
    CmSt w w1 (((w1.setCell ⟨w.heap.size + 1 + 1, 0, none⟩ u0).setCell ⟨w.heap.size + 1 + 1, 1, none⟩ u1).alloc (.cells (madeCells #[.slice none 0 0] M.ram.length) t)) r A0 ((A2.setIfInBounds 0 u0).setIfInBounds 1 u1) M 0 := by
  have hl := row.lt
  have hz := q2.lt
  have b0 := built0 ((w1.setCell ⟨w.heap.size + 1 + 1, 0, none⟩ u0).setCell ⟨w.heap.size + 1 + 1, 1, none⟩ u1) M.ram t
  refine ⟨((q0.other (by simp; omega) _).other (by simp; omega) _).alloc _, ((q1.other (by simp) _).other (by simp) _).alloc _, ((q2.set 0 u0).set 1 u1).alloc _, row.kept ?_, ⟨hr, hl⟩, ?_, ?_⟩
  · rw [Below.heap_alloc _ _ _ (by rw [sizeSet, sizeSet]; exact hl), Below.heap_setCell _ _ _ _ (by simp; omega), Below.heap_setCell _ _ _ _ (by simp; omega)]
  · obtain ⟨c, t', G, V, h1, h2, h3, h4⟩ := b0
    rw [sizeSet (p := ⟨w.heap.size + 1 + 1, 1, none⟩), sizeSet (p := ⟨w.heap.size + 1 + 1, 0, none⟩)] at h1
    exact ⟨c, t', G, V, h1, h2, fun i hi => by omega, h4⟩
  · exact (((bel.setCell (p := ⟨w.heap.size + 1 + 1, 0, none⟩) (by simp; omega) _).setCell (p := ⟨w.heap.size + 1 + 1, 1, none⟩) (by simp; omega) _).alloc (by rw [sizeSet, sizeSet]; exact bel.size) _)
theorem below_da {wr w2 : World} {o : Obj} {g : Nat} (hb : Below (wr.drew.alloc o).heap.size (wr.drew.alloc o) w2) (hg : g = (wr.drew.alloc o).heap.size) : Below wr.heap.size wr w2 ∧ wr.heap.size ≤ g := by
  have hs : (wr.drew.alloc o).heap.size = wr.heap.size + 1 := World.size_alloc _ _
  exact ⟨((Below.refl _ _).drew.alloc (Nat.le_refl _) _).trans (hb.mono (by rw [hs]; exact Nat.le_succ _)), by rw [hg, hs]; exact Nat.le_succ _⟩
theorem CmSt.drew {w w6 wr : World} {r : Nat} {A0 A2 : Array Value} {M : Mem} {k : Nat} (h : CmSt w w6 wr r A0 A2 M k) : CmSt w w6 wr.drew r A0 A2 M k :=
  ⟨h.q0, h.q1, h.q2, h.row, h.ord, h.built, h.bel.drew⟩
theorem copied_impl' (p : Nat) (a : Option Addr) (cap : Nat) (zs : List Int) (w : World) (hp : w.cell? ⟨p, 0, none⟩ = some (.slice a zs.length cap)) (h : RowR w (.slice a zs.length cap) zs) (hl : zs.length ≤ 1000000000) :
    Calls Tryz.prog 122 #[.pointer (some ⟨p, 0, none⟩)] w fun e w' => ∃ r, e = .returned (.pointer (some ⟨r + 1, 0, none⟩)) ∧ r = w.heap.size ∧ Blk w' (r + 1) #[.slice (some ⟨r, 0, none⟩) zs.length zs.length] ∧ RowO w' r (.slice (some ⟨r, 0, none⟩) zs.length zs.length) zs ∧ Below w.heap.size w w' :=
  (copied_impl p a cap zs w hp h hl).mono (fun e w' h => ⟨_, h.1, rfl, h.2.bank, h.2.row, h.2.bel⟩)
theorem cell_new4 (W : World) (o o' o'' : Obj) (v : Value) (t : TypeId) : ((((W.alloc o).alloc o').alloc o'').alloc (.cells #[v] t)).cell? ⟨W.heap.size + 1 + 1 + 1, 0, none⟩ = some v := by
  have := cell_new1 (((W.alloc o).alloc o').alloc o'') v t
  simp only [World.size_alloc] at this
  exact this
set_option maxRecDepth 100000 in
set_option maxHeartbeats 1000000 in
theorem copy_impl (v : Value) (M : Mem) (w : World) (h : MemR w v M) (hf : Fit M) :
    Calls Tryz.prog 59 #[v] w fun e w' => ∃ r s G, e = .returned (memV (.slice (some ⟨r, 0, none⟩) M.rom.length M.rom.length) (.slice (some ⟨s, 0, none⟩) M.ram.length M.ram.length) M.page M.screen M.locked) ∧ Lies w' w.heap.size w'.heap.size r s G M ∧ Below w.heap.size w w' := by
  obtain ⟨a1, p1, a2, p2, rfl, r1, r2⟩ := h.form
  have hB : Hid (∀ o o' o'' o3, Below w.heap.size w ((((w.alloc o).alloc o').alloc o'').alloc o3)) := fun o o' o'' o3 => ((((Below.refl _ _).alloc (Nat.le_refl _) _).alloc (by simp) _).alloc (by simp; omega) _).alloc (by simp; omega) _
  have k1 : Hid (∀ W', Below w.heap.size w W' → RowR W' (.slice a1 M.rom.length p1) M.rom) := fun W' hb => r1.below hb
  have k2 : Hid (∀ W', Below w.heap.size w W' → RowsR W' (.slice a2 M.ram.length p2) M.ram) := fun W' hb => r2.below hb
  have hF : Hid (Fit M) := hf
  have hl1 := hf.1
  have hl2 := hf.2.1
  have hmk := fun W => run_make_row' (P := Tryz.prog) 28 27 (.slice none 0 0) 24 Tryz.underlying28 infoMM rfl .i64 .i64 M.ram.length (by omega) (by omega) W
  clear h hf r1 r2
  go_enter Tryz.func59, Tryz.ntmps59
  go_wp2_with fail
  refine (bankOf_impl _ _ _ _).mono ?_
  rintro e w' ⟨rfl, rfl⟩
  go_wp2_with fail
  refine (copied_impl' _ _ _ M.rom _ (cell_new4 _ _ _ _ _ _) (k1.out _ (hB.out _ _ _ _)) hl1).mono ?_
  rintro e w1 ⟨r, rfl, hr, hbk, hrow, hb1⟩
  obtain ⟨q0, q1, q2, bel⟩ := fourB_new hb1
  have hr2 : w.heap.size + 1 + 1 < r := by rw [hr]; simp
  have S0 := hid (CmSt.start (t := 27) (u0 := .slice (some ⟨r, 0, none⟩) M.rom.length M.rom.length) (u1 := .slice (some ⟨w1.heap.size, 0, none⟩) M.ram.length M.ram.length) q0 q1 q2 hrow hr2 bel)
  have x0 := q0.cell
  have x2 := q2.cell
  have f2 := q2.frozen
  have xb := hbk.cell 0
  have hz2 := q2.lt
  have hz0 := q0.lt
  clear hr hbk hrow hb1 q0 q1 q2 bel k1
  generalize madeCells #[.slice none 0 0] M.ram.length = MC at *
  go_wp2
  go_loopw [23] (fun i wr => ∃ k : Nat, k ≤ M.ram.length ∧ i = .int .i64 k ∧ CmSt w w1 wr r #[.slice a1 M.rom.length p1, .slice a2 M.ram.length p2, .int .i64 M.page, .int .i64 M.screen, .bool M.locked] #[.slice (some ⟨r, 0, none⟩) M.rom.length M.rom.length, .slice (some ⟨w1.heap.size, 0, none⟩) M.ram.length M.ram.length, .int .i64 M.page, .int .i64 M.screen, .bool M.locked] M k) (fun i _ => M.ram.length - (intOf i).toNat)
  case atStart => exact ⟨0, by omega, rfl, S0.out⟩
  case round =>
    obtain ⟨k, hk, rfl, hS⟩ := hrel
    clear S0 hmk x0 x2 f2 xb
    replace hS := hid hS
    have hB1 := hid hS.out.bel
    by_cases hlt : k < M.ram.length
    · obtain ⟨b, off, a3, p3, rfl, c1, hbl, r3⟩ := rows_at (k2.out _ hB1.out) (k := k) hlt
      have hrl := hF.out.2.2 k hlt
      have hr3 : Hid (∀ o, RowR (wr.drew.alloc o) (.slice a3 (M.ram.getD k []).length p3) (M.ram.getD k [])) := fun o => r3.below ((Below.refl _ _).drew.alloc (Nat.le_refl _) _)
      have E : Hid (∀ w2 g u, RowO w2 g u (M.ram.getD k []) → wr.heap.size ≤ g → Below wr.heap.size wr w2 → _) := fun w2 g u h1 h2 h3 => hS.out.step hlt h1 h2 h3
      have y2 := hS.out.q2.cell
      have hq2 := hid hS.out.q2
      have hbt := hid hS.out.built
      have hz3 := hS.out.q2.lt
      have hz4 := hS.out.built.lt
      clear r3 hS k2
      generalize M.ram.getD k [] = z at *
      go_wp2_with fail
      go_region_with (first | (go_at_call 56; refine (bankOf_impl _ _ _ _).mono ?_; rintro e w' ⟨rfl, rfl⟩) | (go_at_call 122; refine (copied_impl' _ _ _ z _ (cell_new1 _ _ _) (hr3.out _) hrl).mono ?_; rintro e w2 ⟨g, rfl, hg, hbk, hrow, hb2⟩; obtain ⟨hb3, hg3⟩ := below_da hb2 hg; have xb2 := hbk.cell 0; have E1 := hid (E.out w2 g _ hrow hg3 hb3); have y3 := (hq2.out.below hb3 hz3).cell; obtain ⟨⟨x, hx⟩, hfr⟩ := (hbt.out.keptB hb3.size (fun b _ h1 => hb3.block b h1)).cell hlt; clear hq2 hbt hrow hbk hb2 hb3 hg hg3 E))
      all_goals
        go_wp2
        go_roundw
        case rel => exact ⟨k + 1, by omega, by go_num, E1.out⟩
        case measure => simp [intOf]; omega
    · obtain rfl : k = M.ram.length := by omega
      have y1 := hS.out.q1.cell
      have g1 := hS.out.q1.frozen
      have y2 := hS.out.q2.cell
      have hz3 := hS.out.q2.lt
      clear k2
      go_wp2
      obtain ⟨G, hL⟩ := hS.out.lies (W' := (((((wr.setCell ⟨w.heap.size + 1, 0, none⟩ (.slice (some ⟨r, 0, none⟩) M.rom.length M.rom.length)).setCell ⟨w.heap.size + 1, 1, none⟩ (.slice (some ⟨w1.heap.size, 0, none⟩) M.ram.length M.ram.length)).setCell ⟨w.heap.size + 1, 2, none⟩ (.int .i64 M.page)).setCell ⟨w.heap.size + 1, 3, none⟩ (.int .i64 M.screen)).setCell ⟨w.heap.size + 1, 4, none⟩ (.bool M.locked))) (by (iterate 5 rw [sizeSet]); exact Nat.le_refl _) (fun b h0 h1 => by iterate 5 rw [Below.heap_setCell _ _ _ _ (by simp; omega)])
      refine bodyPost_ret (v := memV (.slice (some ⟨r, 0, none⟩) M.rom.length M.rom.length) (.slice (some ⟨w1.heap.size, 0, none⟩) M.ram.length M.ram.length) M.page M.screen M.locked) (by simp [results, Tryz.results59, go_sem, y1]) rfl ⟨r, w1.heap.size, G, rfl, hL, ?_⟩
      iterate 5 refine Below.setCell ?_ (by first | omega | (simp; done) | (simp; omega)) _
      exact hB1.out
end Go.Proofs.YtgpmpfikeindfaaGreatDoor
