/- What the program's copies answer: a bank's, and a memory's, in blocks of its own. -/
import Derived.Test.YtgpmpfikeindfaaGreatDoorV18
import Derived.Test.YtgpmpfikeindfaaGreatDoorV03
import Derived.OwnWalk
import Derived.Deep.RegionWith
namespace Go.Proofs.YtgpmpfikeindfaaGreatDoor
open Go.ChangeShapes Go.WideShapes Go.ChangeAt Go.RowKit
set_option linter.unusedVariables false
set_option linter.unusedSimpArgs false

/-- a row of its own at the end of the heap, and a bank that points to it behind it -/
structure Copied (w w' : World) (zs : List Int) : Prop where
  bank : Blk w' (w.heap.size + 1) #[.slice (some ⟨w.heap.size, 0, none⟩) zs.length zs.length]
  row : RowO w' w.heap.size (.slice (some ⟨w.heap.size, 0, none⟩) zs.length zs.length) zs
  bel : Below w.heap.size w w'
theorem ret_ptr {a b : Nat} (h : a = b) : Ending.returned (.pointer (some ⟨a, 0, none⟩)) = Ending.returned (.pointer (some ⟨b, 0, none⟩)) := by rw [h]
/-- one row more, wherever it was made -/
theorem Built.stepG {w wr w1 : World} {zss : List (List Int)} {k g : Nat} {u : Value} (h : Built w wr zss k) (hk : k < zss.length) (hr : RowO w1 g u (zss.getD k [])) (hg : wr.heap.size ≤ g) (hb : Below wr.heap.size wr w1) :
    Built w (w1.setCell ⟨w.heap.size, k, none⟩ u) zss (k + 1) := by
  have hl := h.lt
  obtain ⟨c, t, G, V, h1, h2, h3, h4⟩ := h
  have h1' : w1.heap[w.heap.size]? = some (.cells c t (0, 0)) := (hb.block _ hl).trans h1
  have hs : (w1.setCell ⟨w.heap.size, k, none⟩ u).heap.size = w1.heap.size := by simp [World.setCell]
  have hlt := hr.lt
  refine ⟨c.setIfInBounds k u, t, fun i => if i = k then g else G i, fun i => if i = k then u else V i, heap_setCell_same' _ _ _ _ _ _ h1', by simpa using h2, fun i hi => ?_, fun i j hi hj e => ?_⟩
  · by_cases e : i = k
    · subst e
      simp only [if_true, hs]
      refine ⟨by rw [Array.getElem?_setIfInBounds]; simp; omega, hr.kept (Below.heap_setCell _ _ _ _ (by simp; omega)), by omega, hlt⟩
    · simp only [if_neg e, hs]
      obtain ⟨k1, k2, k3, k4⟩ := h3 i (by omega)
      refine ⟨by rw [Array.getElem?_setIfInBounds, if_neg (fun h => e h.symm)]; exact k1, k2.kept ((Below.heap_setCell _ _ _ _ (by simp; omega)).trans (hb.block _ k4)), k3, by have := hb.size; omega⟩
  · by_cases e1 : i = k
    · by_cases e2 : j = k
      · rw [e1, e2]
      · simp only [if_pos e1, if_neg e2] at e
        have := (h3 j (by omega)).2.2.2
        omega
    · by_cases e2 : j = k
      · simp only [if_neg e1, if_pos e2] at e
        have := (h3 i (by omega)).2.2.2
        omega
      · simp only [if_neg e1, if_neg e2] at e
        exact h4 i j (by omega) (by omega) e
theorem Built.keptB {w wr w' : World} {zss : List (List Int)} {k : Nat} (h : Built w wr zss k) (hs : wr.heap.size ≤ w'.heap.size) (hk : ∀ b, w.heap.size ≤ b → b < wr.heap.size → w'.heap[b]? = wr.heap[b]?) : Built w w' zss k := by
  have hl := h.lt
  obtain ⟨c, t, G, V, h1, h2, h3, h4⟩ := h
  exact ⟨c, t, G, V, (hk _ (Nat.le_refl _) hl).trans h1, h2, fun i hi => by
    obtain ⟨k1, k2, k3, k4⟩ := h3 i hi
    exact ⟨k1, k2.kept (hk _ (by omega) k4), k3, by omega⟩, h4⟩
/-- a memory in blocks of its own, told by their numbers -/
structure Lies (w : World) (lo hi r s : Nat) (G : Nat → Nat) (M : Mem) : Prop where
  rom : RowO w r (.slice (some ⟨r, 0, none⟩) M.rom.length M.rom.length) M.rom
  ram : RowsO w s G (.slice (some ⟨s, 0, none⟩) M.ram.length M.ram.length) M.ram
  br : lo ≤ r ∧ r < hi
  bs : lo ≤ s ∧ s < hi
  bg : ∀ i, i < M.ram.length → lo ≤ G i ∧ G i < hi
  rs : r ≠ s
  gn : ∀ i, i < M.ram.length → G i ≠ r ∧ G i ≠ s
  inj : ∀ i j, i < M.ram.length → j < M.ram.length → G i = G j → i = j
theorem Lies.memO {w : World} {lo hi r s : Nat} {G : Nat → Nat} {M : Mem} (h : Lies w lo hi r s G M) : MemO w lo hi (memV (.slice (some ⟨r, 0, none⟩) M.rom.length M.rom.length) (.slice (some ⟨s, 0, none⟩) M.ram.length M.ram.length) M.page M.screen M.locked) M :=
  .inr ⟨_, _, r, s, G, rfl, h.rom, h.ram, h.br, h.bs, h.bg, h.rs, h.gn, h.inj⟩
theorem Lies.kept {w w' : World} {lo hi r s : Nat} {G : Nat → Nat} {M : Mem} (h : Lies w lo hi r s G M) (k : ∀ b, lo ≤ b → b < hi → w'.heap[b]? = w.heap[b]?) : Lies w' lo hi r s G M :=
  ⟨h.rom.kept (k _ h.br.1 h.br.2), h.ram.kept (k _ h.bs.1 h.bs.2) (fun i hi => k _ (h.bg i hi).1 (h.bg i hi).2), h.br, h.bs, h.bg, h.rs, h.gn, h.inj⟩
/-- while the rows of a memory are being copied -/
structure CmSt (w w6 wr : World) (r : Nat) (A0 A2 : Array Value) (M : Mem) (k : Nat) : Prop where
  q0 : Blk wr w.heap.size A0
  q1 : Blk wr (w.heap.size + 1) #[.slice none 0 0, .slice none 0 0, .int .i64 0, .int .i64 0, .bool false]
  q2 : Blk wr (w.heap.size + 1 + 1) A2
  row : RowO wr r (.slice (some ⟨r, 0, none⟩) M.rom.length M.rom.length) M.rom
  ord : w.heap.size + 1 + 1 < r ∧ r < w6.heap.size
  built : Built w6 wr M.ram k
  bel : Below w.heap.size w wr
theorem CmSt.step {w w6 wr w1 : World} {r : Nat} {A0 A2 : Array Value} {M : Mem} {k g : Nat} {u : Value} (h : CmSt w w6 wr r A0 A2 M k) (hk : k < M.ram.length) (hr : RowO w1 g u (M.ram.getD k [])) (hg : wr.heap.size ≤ g) (hb : Below wr.heap.size wr w1) :
    CmSt w w6 (w1.setCell ⟨w6.heap.size, k, none⟩ u) r A0 A2 M (k + 1) := by
  obtain ⟨q0, q1, q2, row, ord, built, bel⟩ := h
  have hl := built.lt
  exact ⟨(q0.below hb (by omega)).other (by simp; omega) _, (q1.below hb (by omega)).other (by simp; omega) _, (q2.below hb (by omega)).other (by simp; omega) _, row.kept ((Below.heap_setCell _ _ _ _ (by simp; omega)).trans (hb.block _ (by omega))), ord, built.stepG hk hr hg hb, (bel.trans (hb.mono bel.size)).setCell (p := ⟨w6.heap.size, k, none⟩) (by simp; omega) _⟩
theorem CmSt.lies {w w6 wr W' : World} {r : Nat} {A0 A2 : Array Value} {M : Mem} (h : CmSt w w6 wr r A0 A2 M M.ram.length) (hs : wr.heap.size ≤ W'.heap.size) (hk : ∀ b, w.heap.size + 1 + 1 < b → b < wr.heap.size → W'.heap[b]? = wr.heap[b]?) : ∃ G, Lies W' w.heap.size W'.heap.size r w6.heap.size G M := by
  obtain ⟨q0, q1, q2, row, ord, built, bel⟩ := h
  have hl := built.lt
  obtain ⟨c, t, G, V, h1, h2, h3, h4⟩ := built
  refine ⟨G, row.kept (hk _ ord.1 (by omega)), ⟨_, c, t, V, rfl, (hk _ (by omega) hl).trans h1, fun i hi => (h3 i hi).1, fun i hi => (h3 i hi).2.1.kept (hk _ (by have := (h3 i hi).2.2.1; omega) (h3 i hi).2.2.2)⟩, by omega, by omega, fun i hi => by have := (h3 i hi).2.2; omega, by omega, fun i hi => by have := (h3 i hi).2.2; omega, h4⟩
set_option maxRecDepth 100000 in
theorem copied_impl (p : Nat) (a : Option Addr) (cap : Nat) (zs : List Int) (w : World) (hp : w.cell? ⟨p, 0, none⟩ = some (.slice a zs.length cap)) (h : RowR w (.slice a zs.length cap) zs) (hl : zs.length ≤ 1000000000) :
    Calls Tryz.prog 122 #[.pointer (some ⟨p, 0, none⟩)] w fun e w' => e = .returned (.pointer (some ⟨w.heap.size + 1, 0, none⟩)) ∧ Copied w w' zs := by
  replace h := hid h.disj
  have hpl := World.block_lt_of_cell? w _ hp
  dsimp only at hpl
  have hmk := fun W => run_make_row' (P := Tryz.prog) 27 3 (.int .i64 0) 8 Tryz.underlying27 infoM rfl .i64 .i64 zs.length (by omega) (by omega) W
  have h0 : Hid (RowO (w.alloc (.cells (madeCells #[.int .i64 0] zs.length) 3)) w.heap.size (.slice (some ⟨w.heap.size, 0, none⟩) zs.length zs.length) (cpL zs 0)) := cpL_made w zs _
  have hall : Hid (cpL zs zs.length = zs) := cpL_all zs
  generalize madeCells #[.int .i64 0] zs.length = MC at *
  go_enter Tryz.func122, Tryz.ntmps122
  go_wp2
  clear hmk
  go_loopw [17] (fun i wr => ∃ k : Nat, k ≤ zs.length ∧ i = .int .i64 k ∧ RowO wr w.heap.size (.slice (some ⟨w.heap.size, 0, none⟩) zs.length zs.length) (cpL zs k) ∧ Below w.heap.size w wr ∧ wr.heap.size = w.heap.size + 1) (fun i _ => zs.length - (intOf i).toNat)
  case atStart => exact ⟨0, by omega, rfl, h0.out, (Below.refl _ _).alloc (Nat.le_refl _) _, by simp⟩
  case round =>
    obtain ⟨k, hk, rfl, hM, hB, hsz⟩ := hrel
    replace hsz := hid hsz
    clear h0 hp hpl
    by_cases hlt : k < zs.length
    · obtain ⟨b, off, rfl, c1⟩ := row_some h.out hlt
      have hb := World.block_lt_of_cell? w _ c1
      have c2 : wr.cell? ⟨b, off + k, none⟩ = some (.int .i64 (zs.getD k 0)) := by rw [hB.cell (p := ⟨b, off + k, none⟩) hb]; exact c1
      have hx := hM.cell k (by rw [cpL_len]; exact hlt)
      have hfr := hM.frozen k
      generalize (cpL zs k).getD k 0 = x at hx
      have hM2 : Hid (RowO (wr.setCell ⟨w.heap.size, k, none⟩ (.int .i64 (zs.getD k 0))) w.heap.size (.slice (some ⟨w.heap.size, 0, none⟩) zs.length zs.length) (cpL zs (k + 1)) ∧ Below w.heap.size w (wr.setCell ⟨w.heap.size, k, none⟩ (.int .i64 (zs.getD k 0))) ∧ (wr.setCell ⟨w.heap.size, k, none⟩ (.int .i64 (zs.getD k 0))).heap.size = w.heap.size + 1) :=
        ⟨by rw [← cpL_succ zs k hlt]; exact hM.set k _, hB.setCell (p := ⟨w.heap.size, k, none⟩) (Nat.le_refl _) _, by rw [sizeSet]; exact hsz.out⟩
      clear hM hB c1 hb h
      generalize zs.getD k 0 = z at *
      go_wp2
      go_roundw
      case rel => exact ⟨k + 1, by omega, by go_num, hM2.out⟩
      case measure => simp [intOf]; omega
    · obtain rfl : k = zs.length := by omega
      have hE : Hid (wr.heap.size = w.heap.size + 1 ∧ ∀ t, Copied w (wr.alloc (.cells #[.slice (some ⟨w.heap.size, 0, none⟩) zs.length zs.length] t)) zs) := ⟨hsz.out, fun t => ⟨by
        have := Blk.new wr #[.slice (some ⟨w.heap.size, 0, none⟩) zs.length zs.length] t
        rw [hsz.out] at this
        exact this, by
        rw [hall.out] at hM
        exact hM.kept (Below.heap_alloc _ _ _ (by rw [hsz.out]; omega)), hB.alloc hB.size _⟩⟩
      clear hM hB hsz
      go_wp2
      go_ret
      exact ⟨ret_ptr hE.out.1, hE.out.2 _⟩
end Go.Proofs.YtgpmpfikeindfaaGreatDoor

/- What the program's copy of a memory answers. -/
namespace Go.Proofs.YtgpmpfikeindfaaGreatDoor
open Go.ChangeShapes Go.WideShapes Go.ChangeAt Go.RowKit
set_option linter.unusedVariables false
set_option linter.unusedSimpArgs false

theorem fourB_new {w w1 : World} {A0 A1 A2 : Array Value} {t t1 t2 : TypeId} {o : Obj} (hb : Below ((((w.alloc (.cells A0 t)).alloc (.cells A1 t1)).alloc (.cells A2 t2)).alloc o).heap.size ((((w.alloc (.cells A0 t)).alloc (.cells A1 t1)).alloc (.cells A2 t2)).alloc o) w1) :
    Blk w1 w.heap.size A0 ∧ Blk w1 (w.heap.size + 1) A1 ∧ Blk w1 (w.heap.size + 1 + 1) A2 ∧ Below w.heap.size w w1 := by
  have hs : ((((w.alloc (.cells A0 t)).alloc (.cells A1 t1)).alloc (.cells A2 t2)).alloc o).heap.size = w.heap.size + 1 + 1 + 1 + 1 := by simp
  have q1 := Blk.new (w.alloc (.cells A0 t)) A1 t1
  have q2 := Blk.new ((w.alloc (.cells A0 t)).alloc (.cells A1 t1)) A2 t2
  simp only [World.size_alloc] at q1 q2
  refine ⟨((((Blk.new w A0 t).alloc _).alloc _).alloc _).below hb (by omega), ((q1.alloc _).alloc _).below hb (by omega), (q2.alloc _).below hb (by omega), ?_⟩
  exact (((((Below.refl _ _).alloc (Nat.le_refl _) _).alloc (by simp) _).alloc (by simp; omega) _).alloc (by simp; omega) _).trans (hb.mono (by omega))
theorem CmSt.start {w w1 : World} {r : Nat} {A0 A2 : Array Value} {u0 u1 : Value} {M : Mem} {t : TypeId} (q0 : Blk w1 w.heap.size A0) (q1 : Blk w1 (w.heap.size + 1) #[.slice none 0 0, .slice none 0 0, .int .i64 0, .int .i64 0, .bool false]) (q2 : Blk w1 (w.heap.size + 1 + 1) A2)
    (row : RowO w1 r (.slice (some ⟨r, 0, none⟩) M.rom.length M.rom.length) M.rom) (hr : w.heap.size + 1 + 1 < r) (bel : Below w.heap.size w w1) :
    CmSt w w1 (((w1.setCell ⟨w.heap.size + 1 + 1, 0, none⟩ u0).setCell ⟨w.heap.size + 1 + 1, 1, none⟩ u1).alloc (.cells (madeCells #[.slice none 0 0] M.ram.length) t)) r A0 ((A2.setIfInBounds 0 u0).setIfInBounds 1 u1) M 0 := by
  have hl := row.lt
  have hz := q2.lt
  have b0 := built0 ((w1.setCell ⟨w.heap.size + 1 + 1, 0, none⟩ u0).setCell ⟨w.heap.size + 1 + 1, 1, none⟩ u1) M.ram t
  refine ⟨((q0.other (by simp; omega) _).other (by simp; omega) _).alloc _, ((q1.other (by simp) _).other (by simp) _).alloc _, ((q2.set 0 u0).set 1 u1).alloc _, row.kept ?_, ⟨hr, hl⟩, ?_, ?_⟩
  · rw [Below.heap_alloc _ _ _ (by rw [sizeSet, sizeSet]; exact hl), Below.heap_setCell _ _ _ _ (by simp; omega), Below.heap_setCell _ _ _ _ (by simp; omega)]
  · obtain ⟨c, t', G, V, h1, h2, h3, h4⟩ := b0
    rw [sizeSet (p := ⟨w.heap.size + 1 + 1, 1, none⟩), sizeSet (p := ⟨w.heap.size + 1 + 1, 0, none⟩)] at h1
    exact ⟨c, t', G, V, h1, h2, fun i hi => by omega, h4⟩
  · exact (((bel.setCell (p := ⟨w.heap.size + 1 + 1, 0, none⟩) (by simp; omega) _).setCell (p := ⟨w.heap.size + 1 + 1, 1, none⟩) (by simp; omega) _).alloc (by rw [sizeSet, sizeSet]; exact bel.size) _)
theorem below_da {wr w2 : World} {o : Obj} {g : Nat} (hb : Below (wr.drew.alloc o).heap.size (wr.drew.alloc o) w2) (hg : g = (wr.drew.alloc o).heap.size) : Below wr.heap.size wr w2 ∧ wr.heap.size ≤ g := by
  have hs : (wr.drew.alloc o).heap.size = wr.heap.size + 1 := World.size_alloc _ _
  exact ⟨((Below.refl _ _).drew.alloc (Nat.le_refl _) _).trans (hb.mono (by rw [hs]; exact Nat.le_succ _)), by rw [hg, hs]; exact Nat.le_succ _⟩
theorem CmSt.drew {w w6 wr : World} {r : Nat} {A0 A2 : Array Value} {M : Mem} {k : Nat} (h : CmSt w w6 wr r A0 A2 M k) : CmSt w w6 wr.drew r A0 A2 M k :=
  ⟨h.q0, h.q1, h.q2, h.row, h.ord, h.built, h.bel.drew⟩
theorem copied_impl' (p : Nat) (a : Option Addr) (cap : Nat) (zs : List Int) (w : World) (hp : w.cell? ⟨p, 0, none⟩ = some (.slice a zs.length cap)) (h : RowR w (.slice a zs.length cap) zs) (hl : zs.length ≤ 1000000000) :
    Calls Tryz.prog 122 #[.pointer (some ⟨p, 0, none⟩)] w fun e w' => ∃ r, e = .returned (.pointer (some ⟨r + 1, 0, none⟩)) ∧ r = w.heap.size ∧ Blk w' (r + 1) #[.slice (some ⟨r, 0, none⟩) zs.length zs.length] ∧ RowO w' r (.slice (some ⟨r, 0, none⟩) zs.length zs.length) zs ∧ Below w.heap.size w w' :=
  (copied_impl p a cap zs w hp h hl).mono (fun e w' h => ⟨_, h.1, rfl, h.2.bank, h.2.row, h.2.bel⟩)
theorem cell_new4 (W : World) (o o' o'' : Obj) (v : Value) (t : TypeId) : ((((W.alloc o).alloc o').alloc o'').alloc (.cells #[v] t)).cell? ⟨W.heap.size + 1 + 1 + 1, 0, none⟩ = some v := by
  have := cell_new1 (((W.alloc o).alloc o').alloc o'') v t
  simp only [World.size_alloc] at this
  exact this
set_option maxRecDepth 100000 in
set_option maxHeartbeats 1000000 in
theorem copy_impl (v : Value) (M : Mem) (w : World) (h : MemR w v M) (hf : Fit M) :
    Calls Tryz.prog 59 #[v] w fun e w' => ∃ r s G, e = .returned (memV (.slice (some ⟨r, 0, none⟩) M.rom.length M.rom.length) (.slice (some ⟨s, 0, none⟩) M.ram.length M.ram.length) M.page M.screen M.locked) ∧ Lies w' w.heap.size w'.heap.size r s G M ∧ Below w.heap.size w w' := by
  obtain ⟨a1, p1, a2, p2, rfl, r1, r2⟩ := h.form
  have hB : Hid (∀ o o' o'' o3, Below w.heap.size w ((((w.alloc o).alloc o').alloc o'').alloc o3)) := fun o o' o'' o3 => ((((Below.refl _ _).alloc (Nat.le_refl _) _).alloc (by simp) _).alloc (by simp; omega) _).alloc (by simp; omega) _
  have k1 : Hid (∀ W', Below w.heap.size w W' → RowR W' (.slice a1 M.rom.length p1) M.rom) := fun W' hb => r1.below hb
  have k2 : Hid (∀ W', Below w.heap.size w W' → RowsR W' (.slice a2 M.ram.length p2) M.ram) := fun W' hb => r2.below hb
  have hF : Hid (Fit M) := hf
  have hl1 := hf.1
  have hl2 := hf.2.1
  have hmk := fun W => run_make_row' (P := Tryz.prog) 28 27 (.slice none 0 0) 24 Tryz.underlying28 infoMM rfl .i64 .i64 M.ram.length (by omega) (by omega) W
  clear h hf r1 r2
  go_enter Tryz.func59, Tryz.ntmps59
  go_wp2_with fail
  refine (bankOf_impl _ _ _ _).mono ?_
  rintro e w' ⟨rfl, rfl⟩
  go_wp2_with fail
  refine (copied_impl' _ _ _ M.rom _ (cell_new4 _ _ _ _ _ _) (k1.out _ (hB.out _ _ _ _)) hl1).mono ?_
  rintro e w1 ⟨r, rfl, hr, hbk, hrow, hb1⟩
  obtain ⟨q0, q1, q2, bel⟩ := fourB_new hb1
  have hr2 : w.heap.size + 1 + 1 < r := by rw [hr]; simp
  have S0 := hid (CmSt.start (t := 27) (u0 := .slice (some ⟨r, 0, none⟩) M.rom.length M.rom.length) (u1 := .slice (some ⟨w1.heap.size, 0, none⟩) M.ram.length M.ram.length) q0 q1 q2 hrow hr2 bel)
  have x0 := q0.cell
  have x2 := q2.cell
  have f2 := q2.frozen
  have xb := hbk.cell 0
  have hz2 := q2.lt
  have hz0 := q0.lt
  clear hr hbk hrow hb1 q0 q1 q2 bel k1
  generalize madeCells #[.slice none 0 0] M.ram.length = MC at *
  go_wp2
  go_loopw [23] (fun i wr => ∃ k : Nat, k ≤ M.ram.length ∧ i = .int .i64 k ∧ CmSt w w1 wr r #[.slice a1 M.rom.length p1, .slice a2 M.ram.length p2, .int .i64 M.page, .int .i64 M.screen, .bool M.locked] #[.slice (some ⟨r, 0, none⟩) M.rom.length M.rom.length, .slice (some ⟨w1.heap.size, 0, none⟩) M.ram.length M.ram.length, .int .i64 M.page, .int .i64 M.screen, .bool M.locked] M k) (fun i _ => M.ram.length - (intOf i).toNat)
  case atStart => exact ⟨0, by omega, rfl, S0.out⟩
  case round =>
    obtain ⟨k, hk, rfl, hS⟩ := hrel
    clear S0 hmk x0 x2 f2 xb
    replace hS := hid hS
    have hB1 := hid hS.out.bel
    by_cases hlt : k < M.ram.length
    · obtain ⟨b, off, a3, p3, rfl, c1, hbl, r3⟩ := rows_at (k2.out _ hB1.out) (k := k) hlt
      have hrl := hF.out.2.2 k hlt
      have hr3 : Hid (∀ o, RowR (wr.drew.alloc o) (.slice a3 (M.ram.getD k []).length p3) (M.ram.getD k [])) := fun o => r3.below ((Below.refl _ _).drew.alloc (Nat.le_refl _) _)
      have E : Hid (∀ w2 g u, RowO w2 g u (M.ram.getD k []) → wr.heap.size ≤ g → Below wr.heap.size wr w2 → _) := fun w2 g u h1 h2 h3 => hS.out.step hlt h1 h2 h3
      have y2 := hS.out.q2.cell
      have hq2 := hid hS.out.q2
      have hbt := hid hS.out.built
      have hz3 := hS.out.q2.lt
      have hz4 := hS.out.built.lt
      clear r3 hS k2
      generalize M.ram.getD k [] = z at *
      go_wp2_with fail
      go_region_with (first | (go_at_call 56; refine (bankOf_impl _ _ _ _).mono ?_; rintro e w' ⟨rfl, rfl⟩) | (go_at_call 122; refine (copied_impl' _ _ _ z _ (cell_new1 _ _ _) (hr3.out _) hrl).mono ?_; rintro e w2 ⟨g, rfl, hg, hbk, hrow, hb2⟩; obtain ⟨hb3, hg3⟩ := below_da hb2 hg; have xb2 := hbk.cell 0; have E1 := hid (E.out w2 g _ hrow hg3 hb3); have y3 := (hq2.out.below hb3 hz3).cell; obtain ⟨⟨x, hx⟩, hfr⟩ := (hbt.out.keptB hb3.size (fun b _ h1 => hb3.block b h1)).cell hlt; clear hq2 hbt hrow hbk hb2 hb3 hg hg3 E))
      all_goals
        go_wp2
        go_roundw
        case rel => exact ⟨k + 1, by omega, by go_num, E1.out⟩
        case measure => simp [intOf]; omega
    · obtain rfl : k = M.ram.length := by omega
      have y1 := hS.out.q1.cell
      have g1 := hS.out.q1.frozen
      have y2 := hS.out.q2.cell
      have hz3 := hS.out.q2.lt
      clear k2
      go_wp2
      obtain ⟨G, hL⟩ := hS.out.lies (W' := (((((wr.setCell ⟨w.heap.size + 1, 0, none⟩ (.slice (some ⟨r, 0, none⟩) M.rom.length M.rom.length)).setCell ⟨w.heap.size + 1, 1, none⟩ (.slice (some ⟨w1.heap.size, 0, none⟩) M.ram.length M.ram.length)).setCell ⟨w.heap.size + 1, 2, none⟩ (.int .i64 M.page)).setCell ⟨w.heap.size + 1, 3, none⟩ (.int .i64 M.screen)).setCell ⟨w.heap.size + 1, 4, none⟩ (.bool M.locked))) (by (iterate 5 rw [sizeSet]); exact Nat.le_refl _) (fun b h0 h1 => by iterate 5 rw [Below.heap_setCell _ _ _ _ (by simp; omega)])
      refine bodyPost_ret (v := memV (.slice (some ⟨r, 0, none⟩) M.rom.length M.rom.length) (.slice (some ⟨w1.heap.size, 0, none⟩) M.ram.length M.ram.length) M.page M.screen M.locked) (by simp [results, Tryz.results59, go_sem, y1]) rfl ⟨r, w1.heap.size, G, rfl, hL, ?_⟩
      iterate 5 refine Below.setCell ?_ (by first | omega | (simp; done) | (simp; omega)) _
      exact hB1.out
end Go.Proofs.YtgpmpfikeindfaaGreatDoor

/- What the program's board answers: a memory of its own, and of each quarter of the addresses the bank that it shows. -/
namespace Go.Proofs.YtgpmpfikeindfaaGreatDoor
open Go.ChangeShapes Go.WideShapes Go.ChangeAt Go.RowKit
set_option linter.unusedVariables false
set_option linter.unusedSimpArgs false

/-- the first k pointers have been laid -/
def pz (Q : Nat → Nat) (k i : Nat) : Value := if i < k then .pointer (some ⟨Q i, 0, none⟩) else .pointer none
def ptrs (Q : Nat → Nat) (k : Nat) : Array Value := #[pz Q k 0, pz Q k 1, pz Q k 2, pz Q k 3]
theorem ptrs_set (Q : Nat → Nat) (k : Nat) (hk : k < 4) : (ptrs Q k).setIfInBounds k (.pointer (some ⟨Q k, 0, none⟩)) = ptrs Q (k + 1) := by
  rcases (by omega : k = 0 ∨ k = 1 ∨ k = 2 ∨ k = 3) with rfl | rfl | rfl | rfl <;> simp [ptrs, pz]
theorem ptrs_at (Q : Nat → Nat) (k : Nat) (hk : k < 4) : (ptrs Q 4)[k]? = some (.pointer (some ⟨Q k, 0, none⟩)) := by
  rcases (by omega : k = 0 ∨ k = 1 ∨ k = 2 ∨ k = 3) with rfl | rfl | rfl | rfl <;> simp [ptrs, pz]
def bdA (a b c d e : Value) (Q : Nat → Nat) (k : Nat) : Array Value := #[a, b, c, d, e, pz Q k 0, pz Q k 1, pz Q k 2, pz Q k 3]
theorem bdA_set (a b c d e : Value) (Q : Nat → Nat) (k : Nat) (hk : k < 4) : (bdA a b c d e Q k).setIfInBounds (5 + k) (.pointer (some ⟨Q k, 0, none⟩)) = bdA a b c d e Q (k + 1) := by
  rcases (by omega : k = 0 ∨ k = 1 ∨ k = 2 ∨ k = 3) with rfl | rfl | rfl | rfl <;> simp [bdA, pz]
/-- the banks of the RAM are being pointed to -/
structure Nb1 (w1 wr : World) (A0 : Array Value) (vr : Value) (V : Nat → Value) (k : Nat) : Prop where
  q0 : Blk wr w1.heap.size A0
  q1 : Blk wr (w1.heap.size + 1) #[vr]
  q2 : Blk wr (w1.heap.size + 1 + 1) (ptrs (fun i => w1.heap.size + 3 + i) k)
  qb : ∀ i, i < k → Blk wr (w1.heap.size + 3 + i) #[V i]
  sz : wr.heap.size = w1.heap.size + 3 + k
  bel : Below w1.heap.size w1 wr
theorem Nb1.start (w1 : World) (A0 : Array Value) (vr : Value) (V : Nat → Value) (t t1 t2 : TypeId) : Nb1 w1 (((w1.alloc (.cells A0 t)).alloc (.cells #[vr] t1)).alloc (.cells #[.pointer none, .pointer none, .pointer none, .pointer none] t2)) A0 vr V 0 := by
  have q1 := Blk.new (w1.alloc (.cells A0 t)) #[vr] t1
  have q2 := Blk.new ((w1.alloc (.cells A0 t)).alloc (.cells #[vr] t1)) #[.pointer none, .pointer none, .pointer none, .pointer none] t2
  simp only [World.size_alloc] at q1 q2
  exact ⟨((Blk.new w1 A0 t).alloc _).alloc _, q1.alloc _, q2, fun i hi => by omega, by simp, (((Below.refl _ _).alloc (Nat.le_refl _) _).alloc (by simp) _).alloc (by simp; omega) _⟩
theorem Nb1.step {w1 wr : World} {A0 : Array Value} {vr : Value} {V : Nat → Value} {k : Nat} (h : Nb1 w1 wr A0 vr V k) (hk : k < 4) (t : TypeId) :
    Nb1 w1 ((wr.setCell ⟨w1.heap.size + 1 + 1, k, none⟩ (.pointer (some ⟨wr.heap.size, 0, none⟩))).alloc (.cells #[V k] t)) A0 vr V (k + 1) := by
  obtain ⟨q0, q1, q2, qb, sz, bel⟩ := h
  have q3 := q2.set k (.pointer (some ⟨wr.heap.size, 0, none⟩))
  rw [sz, ptrs_set (fun i => w1.heap.size + 3 + i) k hk] at q3
  have q4 := Blk.new (wr.setCell ⟨w1.heap.size + 1 + 1, k, none⟩ (.pointer (some ⟨wr.heap.size, 0, none⟩))) #[V k] t
  rw [sizeSet, sz] at q4
  refine ⟨(q0.other (by simp; omega) _).alloc _, (q1.other (by simp) _).alloc _, by rw [sz]; exact q3.alloc _, fun i hi => ?_, by rw [World.size_alloc, sizeSet, sz]; omega, (bel.setCell (p := ⟨w1.heap.size + 1 + 1, k, none⟩) (by simp; omega) _).alloc (by rw [sizeSet]; exact bel.size) _⟩
  by_cases e : i = k
  · subst e
    rw [sz]
    exact q4
  · exact ((qb i (by omega)).other (by simp; omega) _).alloc _
/-- the block that a quarter's bank points to -/
def rowB (r : Nat) (G : Nat → Nat) (pg : Int) (q : Nat) : Nat := if q = 0 then r else if q = 1 then G 1 else if q = 2 then G 2 else G pg.toNat
/-- a board at block B -/
structure Brd (w : World) (lo hi B r s : Nat) (G Q : Nat → Nat) (M : Mem) : Prop where
  lies : Lies w lo hi r s G M
  blk : Blk w B #[.slice (some ⟨r, 0, none⟩) 64 64, .slice (some ⟨s, 0, none⟩) 4 4, .int .i64 M.page, .int .i64 M.screen, .bool M.locked, .pointer (some ⟨Q 0, 0, none⟩), .pointer (some ⟨Q 1, 0, none⟩), .pointer (some ⟨Q 2, 0, none⟩), .pointer (some ⟨Q 3, 0, none⟩)]
  bank : ∀ q, q < 4 → ∃ cap, Blk w (Q q) #[.slice (some ⟨rowB r G M.page q, 0, none⟩) 64 cap]
  ord : hi ≤ B ∧ ∀ q, q < 4 → hi ≤ Q q
theorem Lies.cells {w : World} {lo hi r s : Nat} {G : Nat → Nat} {M : Mem} (h : Lies w lo hi r s G M) (hok : okM M = true) : ∃ C : Nat → Nat, ∀ i, i < 4 → w.cell? ⟨s, i, none⟩ = some (.slice (some ⟨G i, 0, none⟩) 64 (C i)) := by
  obtain ⟨h1, h2, h3, h4, h5⟩ := ok_parts hok
  obtain ⟨cap, c, t, V, hv, k1, k2, k3⟩ := h.ram
  have : ∀ i, ∃ C, i < 4 → w.cell? ⟨s, i, none⟩ = some (.slice (some ⟨G i, 0, none⟩) 64 C) := fun i => by
    by_cases hi : i < 4
    · obtain ⟨C, _, _, hv', _⟩ := k3 i (by omega)
      refine ⟨C, fun _ => ?_⟩
      rw [bytes_len (h5 i (by omega))] at hv'
      rw [← hv']
      simp [World.cell?, k1, k2 i (by omega)]
    · exact ⟨0, fun h => absurd h hi⟩
  exact ⟨fun i => (this i).choose, fun i hi => (this i).choose_spec hi⟩
/-- the quarters are being laid -/
structure Nb2 (w2 wr : World) (B : Nat) (A : Nat → Array Value) (k : Nat) : Prop where
  blk : Blk wr B (A k)
  bel : Below B w2 wr
theorem Nb2.drew {w2 wr : World} {B : Nat} {A : Nat → Array Value} {k : Nat} (h : Nb2 w2 wr B A k) : Nb2 w2 wr.drew B A k := ⟨h.blk, h.bel.drew⟩
theorem Nb2.step {w2 wr : World} {B : Nat} {A : Nat → Array Value} {k i : Nat} {u : Value} (h : Nb2 w2 wr B A k) (e : (A k).setIfInBounds i u = A (k + 1)) : Nb2 w2 (wr.setCell ⟨B, i, none⟩ u) B A (k + 1) :=
  ⟨by rw [← e]; exact h.blk.set i u, h.bel.setCell (p := ⟨B, i, none⟩) (Nat.le_refl _) _⟩
/-- the bank that a quarter points to -/
def quart (n : Nat) (pg : Int) (q : Nat) : Nat := if q = 0 then n + 1 else if q = 1 then n + 3 + 1 else if q = 2 then n + 3 + 2 else n + 3 + pg.toNat
theorem brd_of {w w1 wr wf : World} {r s : Nat} {G C : Nat → Nat} {M : Mem} (lo : Nat) (hok : okM M = true) (hL : Lies w1 lo w1.heap.size r s G M) (hN : Nb1 w1 wr #[.slice (some ⟨r, 0, none⟩) 64 64, .slice (some ⟨s, 0, none⟩) 4 4, .int .i64 M.page, .int .i64 M.screen, .bool M.locked] (.slice (some ⟨r, 0, none⟩) 64 64) (fun i => .slice (some ⟨G i, 0, none⟩) 64 (C i)) 4)
    (h2 : Nb2 wr wf wr.heap.size (bdA (.slice (some ⟨r, 0, none⟩) 64 64) (.slice (some ⟨s, 0, none⟩) 4 4) (.int .i64 M.page) (.int .i64 M.screen) (.bool M.locked) (quart w1.heap.size M.page)) 4) :
    Brd wf lo w1.heap.size wr.heap.size r s G (quart w1.heap.size M.page) M := by
  obtain ⟨k1, k2, k3, k4, k5⟩ := ok_parts hok
  obtain ⟨q0, q1, q2, qb, sz, bel⟩ := hN
  obtain ⟨blk, bel2⟩ := h2
  have hp : M.page.toNat < 4 := by omega
  refine ⟨hL.kept (fun b _ hb => (bel2.block b (by omega)).trans (bel.block b hb)), by simpa [bdA, pz] using blk, fun q hq => ?_, by omega, fun q hq => by unfold quart; split; omega; split; omega; split <;> omega⟩
  rcases (by omega : q = 0 ∨ q = 1 ∨ q = 2 ∨ q = 3) with rfl | rfl | rfl | rfl
  · exact ⟨_, q1.below bel2 (by omega)⟩
  · exact ⟨_, (qb 1 (by omega)).below bel2 (by omega)⟩
  · exact ⟨_, (qb 2 (by omega)).below bel2 (by omega)⟩
  · exact ⟨_, (qb M.page.toNat (by omega)).below bel2 (by omega)⟩
set_option maxRecDepth 100000 in
set_option maxHeartbeats 1000000 in
theorem board_impl (v : Value) (M : Mem) (w : World) (h : MemR w v M) (hok : okM M = true) (hf : Fit M) :
    Calls Tryz.prog 35 #[v] w fun e w' => ∃ hi B r s G Q, e = .returned (.pointer (some ⟨B, 0, none⟩)) ∧ Brd w' w.heap.size hi B r s G Q M ∧ Below w.heap.size w w' := by
  obtain ⟨a1, p1, a2, p2, rfl, r1, r2⟩ := h.form
  have hB : Hid (∀ o, Below w.heap.size w (w.alloc o)) := fun o => (Below.refl _ _).alloc (Nat.le_refl _) _
  have hM : Hid (∀ o, MemR (w.alloc o) (memV (.slice a1 M.rom.length p1) (.slice a2 M.ram.length p2) M.page M.screen M.locked) M) := fun o => h.below (hB.out o)
  have hF : Hid (Fit M) := hf
  clear h hf r1 r2
  go_enter Tryz.func35, Tryz.ntmps35
  go_wp2_with fail
  refine (copy_impl _ M _ (hM.out _) hF.out).mono ?_
  rintro e w1 ⟨r, s, G, rfl, hL, hb1⟩
  obtain ⟨C, hC⟩ := hL.cells hok
  have hl1 : M.rom.length = 64 := bytes_len (ok_parts hok).1
  have hl2 : M.ram.length = 4 := (ok_parts hok).2.1
  rw [hl1, hl2]
  have hpg := (ok_parts hok).2.2.1
  obtain ⟨j, hj⟩ : ∃ j : Nat, M.page = (j : Int) := ⟨M.page.toNat, by omega⟩
  have hL' : Hid (Lies w1 w.heap.size w1.heap.size r s G M) := ⟨hL.rom, hL.ram, by have := hL.br; simp at this; omega, by have := hL.bs; simp at this; omega, fun i hi => by have := hL.bg i hi; simp at this; omega, hL.rs, hL.gn, hL.inj⟩
  have hbw := hid (new_trans (hB.out _) hb1)
  have hsl : s < w1.heap.size := hL.bs.2
  have S0 : Hid (Nb1 w1 (((w1.alloc (.cells #[.slice (some ⟨r, 0, none⟩) 64 64, .slice (some ⟨s, 0, none⟩) 4 4, .int .i64 M.page, .int .i64 M.screen, .bool M.locked] 30)).alloc (.cells #[.slice (some ⟨r, 0, none⟩) 64 64] 106)).alloc (.cells #[.pointer none, .pointer none, .pointer none, .pointer none] 76)) _ _ (fun i => .slice (some ⟨G i, 0, none⟩) 64 (C i)) 0) := Nb1.start w1 _ _ _ _ _ _
  replace hC := hid hC
  replace hj := hid hj
  clear hL hb1 hl1 hl2 hM hpg
  go_wp2_with (go_at_call 56; refine (bankOf_impl _ _ _ _).mono ?_; rintro e w' ⟨rfl, rfl⟩)
  go_loopw [15] (fun i wr => ∃ k : Nat, k ≤ 4 ∧ i = .int .i64 k ∧ Nb1 w1 wr #[.slice (some ⟨r, 0, none⟩) 64 64, .slice (some ⟨s, 0, none⟩) 4 4, .int .i64 M.page, .int .i64 M.screen, .bool M.locked] (.slice (some ⟨r, 0, none⟩) 64 64) (fun i => .slice (some ⟨G i, 0, none⟩) 64 (C i)) k) (fun i _ => 4 - (intOf i).toNat)
  case atStart => exact ⟨0, by omega, rfl, S0.out⟩
  case round =>
    obtain ⟨k, hk, rfl, hS⟩ := hrel
    clear S0
    replace hS := hid hS
    have y0 := hS.out.q0.cell
    have hz0 := hS.out.q0.lt
    have hz2 := hS.out.q2.lt
    by_cases hlt : k < 4
    · have hst := hid (hS.out.step hlt 106)
      have c1 : wr.cell? ⟨s, k, none⟩ = some (.slice (some ⟨G k, 0, none⟩) 64 (C k)) := by rw [hS.out.bel.cell (p := ⟨s, k, none⟩) hsl]; exact hC.out k hlt
      have y2 := hS.out.q2.cell k
      have f2 := hS.out.q2.frozen k
      obtain ⟨x, hx⟩ : ∃ x, (ptrs (fun i => w1.heap.size + 3 + i) k)[k]? = some x := ⟨_, Array.getElem?_eq_getElem (by simp [ptrs]; omega)⟩
      rw [hx] at y2
      clear hS hx
      generalize G k = gk at *
      generalize C k = ck at *
      go_wp2_with (go_at_call 56; refine (bankOf_impl _ _ _ _).mono ?_; rintro e w' ⟨rfl, rfl⟩)
      go_roundw
      case rel => exact ⟨k + 1, by omega, by go_num, hst.out⟩
      case measure => simp [intOf]; omega
    · obtain rfl : k = 4 := by omega
      have hq2 := hid hS.out.q2
      have hSl := hid hS.out
      have hpg := (ok_parts hok).2.2.1
      have hpg0 := hpg.1
      have hpg4 : M.page < 4 := by omega
      have hpn : M.page.toNat < 4 := by omega
      have i0 : ∀ w : World, (Instr.index 103 (.agg #[.int .i64 (-1), .int .i64 1, .int .i64 2, .int .i64 M.page]) (.int .i64 0)).run Tryz.prog w = .ok (.int .i64 (-1)) w := fun _ => by kernel_rfl
      have i1 : ∀ w : World, (Instr.index 103 (.agg #[.int .i64 (-1), .int .i64 1, .int .i64 2, .int .i64 M.page]) (.int .i64 1)).run Tryz.prog w = .ok (.int .i64 1) w := fun _ => by kernel_rfl
      have i2 : ∀ w : World, (Instr.index 103 (.agg #[.int .i64 (-1), .int .i64 1, .int .i64 2, .int .i64 M.page]) (.int .i64 2)).run Tryz.prog w = .ok (.int .i64 2) w := fun _ => by kernel_rfl
      have i3 : ∀ w : World, (Instr.index 103 (.agg #[.int .i64 (-1), .int .i64 1, .int .i64 2, .int .i64 M.page]) (.int .i64 3)).run Tryz.prog w = .ok (.int .i64 M.page) w := fun _ => by kernel_rfl
      go_wp2_with fail
      refine (banks_impl _ _ _ _ _ _ _ _ _ _).mono ?_
      rintro e w3 ⟨rfl, hb3⟩
      have T0 : Hid (Nb2 wr w3 wr.heap.size (bdA (.slice (some ⟨r, 0, none⟩) 64 64) (.slice (some ⟨s, 0, none⟩) 4 4) (.int .i64 M.page) (.int .i64 M.screen) (.bool M.locked) (quart w1.heap.size M.page)) 0) := ⟨(Blk.new wr _ _).below hb3 (by simp), ((Below.refl _ _).alloc (Nat.le_refl _) _).trans (hb3.mono (by simp))⟩
      clear hb3 y0
      obtain ⟨B, hBe⟩ : ∃ B, wr.heap.size = B := ⟨_, rfl⟩
      have hBl : w1.heap.size + 1 + 1 < B := by rw [← hBe]; exact hz2
      rw [hBe] at T0
      replace hBe := hid hBe
      go_wp2
      rw [hBe.out]
      go_loopw [32] (fun i wf => ∃ k : Nat, k ≤ 4 ∧ i = .int .i64 k ∧ Nb2 wr wf B (bdA (.slice (some ⟨r, 0, none⟩) 64 64) (.slice (some ⟨s, 0, none⟩) 4 4) (.int .i64 M.page) (.int .i64 M.screen) (.bool M.locked) (quart w1.heap.size M.page)) k) (fun i _ => 4 - (intOf i).toNat)
      case atStart => exact ⟨0, by omega, rfl, T0.out⟩
      case round =>
        obtain ⟨k, hk, rfl, hT⟩ := hrel
        clear T0
        replace hT := hid hT
        have z2 : Hid (∀ i, i < 4 → wr.cell? ⟨w1.heap.size + 1 + 1, i, none⟩ = some (.pointer (some ⟨w1.heap.size + 3 + i, 0, none⟩))) := fun i hi => by
          rw [hT.out.bel.cell (p := ⟨w1.heap.size + 1 + 1, i, none⟩) hBl, hq2.out.cell i]
          exact ptrs_at _ i hi
        rcases (by omega : k = 0 ∨ k = 1 ∨ k = 2 ∨ k = 3 ∨ k = 4) with rfl | rfl | rfl | rfl | rfl
        · have y := hT.out.blk.cell 5
          have f := hT.out.blk.frozen 5
          have hzz := hT.out.blk.lt
          simp [bdA, pz] at y
          have hst := hid (hT.out.step (i := 5 + 0) (u := .pointer (some ⟨w1.heap.size + 1, 0, none⟩)) (bdA_set _ _ _ _ _ (quart w1.heap.size M.page) 0 (by omega)))
          clear hT z2 i1 i2 i3
          go_wp2
          go_roundw
          case rel => exact ⟨0 + 1, by omega, by go_num, hst.out⟩
          case measure => simp [intOf]
        · have y := hT.out.blk.cell 6
          have f := hT.out.blk.frozen 6
          have hzz := hT.out.blk.lt
          simp [bdA, pz] at y
          have z := z2.out 1 (by omega)
          have hst := hid (hT.out.drew.step (i := 5 + 1) (u := .pointer (some ⟨w1.heap.size + 3 + 1, 0, none⟩)) (bdA_set _ _ _ _ _ (quart w1.heap.size M.page) 1 (by omega)))
          clear hT z2 i0 i2 i3
          go_wp2
          go_region
          go_wp2
          go_roundw
          case rel => exact ⟨1 + 1, by omega, by go_num, hst.out⟩
          case measure => simp [intOf]
        · have y := hT.out.blk.cell 7
          have f := hT.out.blk.frozen 7
          have hzz := hT.out.blk.lt
          simp [bdA, pz] at y
          have z := z2.out 2 (by omega)
          have hst := hid (hT.out.drew.step (i := 5 + 2) (u := .pointer (some ⟨w1.heap.size + 3 + 2, 0, none⟩)) (bdA_set _ _ _ _ _ (quart w1.heap.size M.page) 2 (by omega)))
          clear hT z2 i0 i1 i3
          go_wp2
          go_region
          go_wp2
          go_roundw
          case rel => exact ⟨2 + 1, by omega, by go_num, hst.out⟩
          case measure => simp [intOf]
        · have y := hT.out.blk.cell 8
          have f := hT.out.blk.frozen 8
          have hzz := hT.out.blk.lt
          simp [bdA, pz] at y
          have z := z2.out M.page.toNat hpn
          have hnz : (M.page == -1) = false := by simp; omega
          have hst := hid (hT.out.drew.step (i := 5 + 3) (u := .pointer (some ⟨w1.heap.size + 3 + M.page.toNat, 0, none⟩)) (bdA_set _ _ _ _ _ (quart w1.heap.size M.page) 3 (by omega)))
          clear hT z2 i0 i1 i2
          go_wp2
          go_region
          go_wp2
          go_roundw
          case rel => exact ⟨3 + 1, by omega, by go_num, hst.out⟩
          case measure => simp [intOf]
        · have hE := hid (brd_of (w := w) w.heap.size hok hL'.out hSl.out (by rw [hBe.out]; exact hT.out))
          have hbl := hid (hbw.out.trans ((hSl.out.bel.mono hbw.out.size).trans (hT.out.bel.mono (by have := hbw.out.size; omega))))
          rw [hBe.out] at hE
          clear z2 i0 i1 i2 i3
          go_wp2
          go_ret
          exact ⟨_, _, _, _, _, _, rfl, hE.out, hbl.out⟩
end Go.Proofs.YtgpmpfikeindfaaGreatDoor
