/- The processor, as plain numbers: what an instruction does. -/
import Derived.Test.YtgpmpfikeindfaaGreatDoorV02
import Derived.Test.YtgpmpfikeindfaaGreatDoorV04
import Derived.Test.YtgpmpfikeindfaaGreatDoorAdv
import Derived.Test.YtgpmpfikeindfaaGreatDoorV06
import Derived.Test.YtgpmpfikeindfaaGreatDoorAgv
namespace Go.Proofs.YtgpmpfikeindfaaGreatDoor
open Go.ChangeShapes Go.WideShapes Go.ChangeAt Go.RowKit
set_option linter.unusedVariables false
set_option linter.unusedSimpArgs false

structure Cp where
  b : Nat
  c : Nat
  d : Nat
  e : Nat
  h : Nat
  l : Nat
  a : Nat
  f : Nat
  sp : Nat
  pc : Nat
  iff : Bool
  ei : Bool
  halt : Bool
/-- what an instruction works on: the processor, the memory, the cycles so far -/
structure Mx where
  c : Cp
  m : Mem
  cy : List (Nat × Nat × Nat)
/-- all are bytes -/
def Cp.ok (c : Cp) : Prop := c.b < 256 ∧ c.c < 256 ∧ c.d < 256 ∧ c.e < 256 ∧ c.h < 256 ∧ c.l < 256 ∧ c.a < 256 ∧ c.f < 256 ∧ c.sp < 256 ∧ c.pc < 256
def Mx.ok (x : Mx) : Prop := x.c.ok ∧ okM x.m = true
def peekN (M : Mem) (a : Nat) : Nat := (peekI M (a : Int)).toNat
def Cp.reg (c : Cp) : Nat → Nat
  | 0 => c.b
  | 1 => c.c
  | 2 => c.d
  | 3 => c.e
  | 4 => c.h
  | 5 => c.l
  | 6 => 0
  | _ => c.a
def Cp.put (c : Cp) (v : Nat) : Nat → Cp
  | 0 => { c with b := v }
  | 1 => { c with c := v }
  | 2 => { c with d := v }
  | 3 => { c with e := v }
  | 4 => { c with h := v }
  | 5 => { c with l := v }
  | 6 => c
  | _ => { c with a := v }
def Mx.note (x : Mx) (k a v : Nat) : Mx := { x with cy := x.cy ++ [(k, a, v)] }
def Mx.read (x : Mx) (a : Nat) : Mx := x.note 2 a (peekN x.m a)
def Mx.write (x : Mx) (a v : Nat) : Mx := { x with m := pokeM x.m (a : Int) (v : Int), cy := x.cy ++ [(3, a, v)] }
/-- a register's value, and what is left when it has been asked for -/
def Mx.getV (x : Mx) (r : Nat) : Nat := if r = 6 then peekN x.m x.c.h else x.c.reg r
def Mx.getX (x : Mx) (r : Nat) : Mx := if r = 6 then x.read x.c.h else x
def Mx.set (x : Mx) (r v : Nat) : Mx := if r = 6 then x.write x.c.h v else { x with c := x.c.put v r }
def Mx.push (x : Mx) (v : Nat) : Mx := ({ x with c := { x.c with sp := (x.c.sp + 255) % 256 } } : Mx).write ((x.c.sp + 255) % 256) v
def Mx.popV (x : Mx) : Nat := peekN x.m x.c.sp
def Mx.popX (x : Mx) : Mx := { x.read x.c.sp with c := { x.c with sp := (x.c.sp + 1) % 256 } }
def holdN (f k : Nat) : Bool :=
  if k = 0 ∨ k = 1 then (Nat.land f 64 != 0) == (k == 1) else if k = 2 ∨ k = 3 then (Nat.land f 1 != 0) == (k == 3) else if k = 4 ∨ k = 5 then (Nat.land f 4 != 0) == (k == 5) else if k = 6 then Nat.land f 128 != 0 else true
def aluV (op a b f : Nat) : Nat := if op = 0 then addV a b 0 else if op = 1 then addV a b (Nat.land f 1) else if op = 2 then subV a b 0 else if op = 3 then subV a b (Nat.land f 1) else if op = 7 then a else logV (op - 4) a b
def aluF (op a b f : Nat) : Nat := if op = 0 then addF a b 0 else if op = 1 then addF a b (Nat.land f 1) else if op = 2 then subF a b 0 else if op = 3 then subF a b (Nat.land f 1) else if op = 7 then Nat.lor (Nat.land (subF a b 0) 215) (Nat.land b 40) else logF (op - 4) a b
def Mx.alu (x : Mx) (op b : Nat) : Mx := { x with c := { x.c with a := aluV op x.c.a b x.c.f, f := aluF op x.c.a b x.c.f } }
def copyF (f n b : Nat) : Nat := Nat.lor (Nat.lor (Nat.lor (Nat.land f 193) (Nat.land n 8)) (Nat.land (n * 16) 32)) (if b = 0 then 0 else 4)
def Mx.copy (x : Mx) : Mx :=
  let v := peekN x.m x.c.h
  let y := (x.read x.c.h).write x.c.d v
  { y with c := { x.c with h := (x.c.h + 1) % 256, d := (x.c.d + 1) % 256, b := (x.c.b + 255) % 256, f := copyF x.c.f (v + x.c.a) ((x.c.b + 255) % 256) } }
theorem reg_lt {c : Cp} (h : c.ok) (r : Nat) : c.reg r < 256 := by
  obtain ⟨h0, h1, h2, h3, h4, h5, h6, _⟩ := h
  unfold Cp.reg
  split <;> omega
end Go.Proofs.YtgpmpfikeindfaaGreatDoor

/- A memory that does not lie in certain blocks: what is written elsewhere does not turn it; a byte poked keeps it so. -/
namespace Go.Proofs.YtgpmpfikeindfaaGreatDoor
open Go.ChangeShapes Go.WideShapes Go.ChangeAt Go.RowKit
set_option linter.unusedVariables false
set_option linter.unusedSimpArgs false

/-- the world without what certain blocks hold -/
def _root_.Go.World.veil (w : World) (p : Nat → Bool) : World := { w with heap := w.heap.mapIdx fun i o => if p i = true then .cells #[] 0 (0, 0) else o }
theorem veil_heap (w : World) (p : Nat → Bool) (b : Nat) : (w.veil p).heap[b]? = (w.heap[b]?).map fun o => if p b = true then .cells #[] 0 (0, 0) else o := by
  simp [World.veil, Array.getElem?_mapIdx]
theorem veil_cell (w : World) (p : Nat → Bool) (b i : Nat) : (w.veil p).cell? ⟨b, i, none⟩ = if p b = true then none else w.cell? ⟨b, i, none⟩ := by
  unfold World.cell?
  dsimp only
  rw [veil_heap]
  cases h : w.heap[b]? with
  | none => cases p b <;> simp
  | some o =>
    cases hp : p b
    · simp
    · simp
/-- whatever cell the one world has, the other has too -/
def CLe (w w' : World) : Prop := ∀ b i u, w.cell? ⟨b, i, none⟩ = some u → w'.cell? ⟨b, i, none⟩ = some u
theorem veil_le (w : World) (p : Nat → Bool) : CLe (w.veil p) w := fun b i u h => by
  rw [veil_cell] at h
  cases hp : p b
  · rw [hp] at h; exact h
  · rw [hp] at h; cases h
theorem cell_kept' {W W' : World} {b i : Nat} {v : Value} (hb : Below W.heap.size W W') (h : W.cell? ⟨b, i, none⟩ = some v) : W'.cell? ⟨b, i, none⟩ = some v := by
  rw [hb.cell (p := ⟨b, i, none⟩) (World.block_lt_of_cell? W _ h)]
  exact h
theorem veil_below {w w' : World} (p : Nat → Bool) (hb : Below w.heap.size w w') : CLe (w.veil p) (w'.veil p) := fun b i u h => by
  rw [veil_cell] at h ⊢
  cases hp : p b
  · rw [hp] at h
    exact cell_kept' hb h
  · rw [hp] at h; cases h
theorem RowR.mono {w w' : World} {v : Value} {zs : List Int} (h : RowR w v zs) (hc : CLe w w') : RowR w' v zs := by
  obtain ⟨a, cap, rfl, h⟩ := h
  refine ⟨a, cap, rfl, ?_⟩
  rcases h with h | ⟨b, off, rfl, h⟩
  · exact .inl h
  · exact .inr ⟨b, off, rfl, fun i hi => hc _ _ _ (h i hi)⟩
theorem RowsR.mono {w w' : World} {v : Value} {zss : List (List Int)} (h : RowsR w v zss) (hc : CLe w w') : RowsR w' v zss := by
  obtain ⟨a, cap, rfl, h⟩ := h
  refine ⟨a, cap, rfl, ?_⟩
  rcases h with h | ⟨b, off, rfl, h⟩
  · exact .inl h
  · refine .inr ⟨b, off, rfl, fun i hi => ?_⟩
    obtain ⟨u, h1, h2⟩ := h i hi
    exact ⟨u, hc _ _ _ h1, h2.mono hc⟩
theorem MemR.mono {w w' : World} {v : Value} {M : Mem} (h : MemR w v M) (hc : CLe w w') : MemR w' v M := by
  obtain ⟨vr, vm, rfl, h1, h2⟩ := h
  exact ⟨vr, vm, rfl, h1.mono hc, h2.mono hc⟩
theorem RowR.unveil {w : World} {p : Nat → Bool} {v : Value} {zs : List Int} (h : RowR (w.veil p) v zs) : RowR w v zs := h.mono (veil_le w p)
theorem RowsR.unveil {w : World} {p : Nat → Bool} {v : Value} {zs : List (List Int)} (h : RowsR (w.veil p) v zs) : RowsR w v zs := h.mono (veil_le w p)
theorem MemR.unveil {w : World} {p : Nat → Bool} {v : Value} {M : Mem} (h : MemR (w.veil p) v M) : MemR w v M := h.mono (veil_le w p)
theorem RowR.veil_below {w w' : World} {p : Nat → Bool} {v : Value} {zs : List Int} (h : RowR (w.veil p) v zs) (hb : Below w.heap.size w w') : RowR (w'.veil p) v zs := h.mono (Go.Proofs.YtgpmpfikeindfaaGreatDoor.veil_below p hb)
theorem MemR.veil_below {w w' : World} {p : Nat → Bool} {v : Value} {M : Mem} (h : MemR (w.veil p) v M) (hb : Below w.heap.size w w') : MemR (w'.veil p) v M := h.mono (Go.Proofs.YtgpmpfikeindfaaGreatDoor.veil_below p hb)
theorem RowO.veil {w : World} {p : Nat → Bool} {g : Nat} {v : Value} {zs : List Int} (h : RowO w g v zs) (hp : p g = false) : RowO (w.veil p) g v zs := h.kept (by rw [veil_heap, hp]; cases w.heap[g]? <;> rfl)
theorem poke0_av (p : Nat → Bool) (v : Value) (M : Mem) (a x : Int) (w : World) (hp : ∀ b, p b = true → b < w.heap.size) (hv : MemR (w.veil p) v M) (hk : okM M = true) (h0 : 0 ≤ a) (h1 : a ≤ 255) :
    Calls Tryz.prog 134 #[v, .int .i64 a, .int .i64 x] w fun e w' => ∃ u, e = .returned u ∧ MemR (w'.veil p) u (pokeM M a x) ∧ Below w.heap.size w w' := by
  obtain ⟨i0, hi0, hz0, hz1, hz2⟩ := info_parts infoI1
  obtain ⟨i1, hi1, hy0, hy1, hy2⟩ := info_parts infoI2
  obtain ⟨hp1, hp2, hp3, _, hp5⟩ := ok_parts hk
  have h := hv.unveil
  obtain ⟨a1, p1, a2, p2, rfl, s1, s2⟩ := hv.form
  have r1 := s1.unveil
  have r2 := s2.unveil
  by_cases hlt : a < 64
  · have e : pokeM M a x = M := by unfold pokeM; rw [if_pos hlt]
    have eb : bankI M.page a = -1 := by unfold bankI; rw [if_pos hlt]
    have E : Hid (∀ W', Below w.heap.size w W' → MemR (W'.veil p) (memV (.slice a1 M.rom.length p1) (.slice a2 M.ram.length p2) M.page M.screen M.locked) (pokeM M a x)) := fun W' hb => by rw [e]; exact hv.veil_below hb
    clear r1 r2 s1 s2 hv hp1 hp5 h e hp2
    go_enter Tryz.func134, Tryz.ntmps134
    go_wp2_with fail
    refine (bank_spec a1 a2 _ p1 _ p2 _ _ _ _ _ h0 h1).mono ?_
    rintro e w1 ⟨rfl, hb1⟩
    rw [eb]
    have hz := hb1.size
    simp only [World.size_alloc] at hz
    have hB1 : Hid (Below w.heap.size w w1) := (((Below.refl _ _).alloc (Nat.le_refl _) _).alloc (by simp) _).trans (hb1.mono (by simp; omega))
    have hc := fun i => (bcell hb1).1 w.heap.size i (by simp; omega)
    have hd := fun i => (bcell hb1).1 (w.heap.size + 1) i (by simp)
    have hf := fun i => (bcell hb1).2 (w.heap.size + 1) i (by simp)
    clear hb1
    go_wp2
    refine bodyPost_ret (v := memV (.slice a1 M.rom.length p1) (.slice a2 M.ram.length p2) M.page M.screen M.locked) (by simp [results, Tryz.results134, go_sem, hd]) rfl ⟨_, rfl, E.out _ ?_, ?_⟩
    · iterate 5 refine Below.setCell ?_ (by first | omega | (simp; done) | (simp; omega)) _
      exact hB1.out
    · iterate 5 refine Below.setCell ?_ (by first | omega | (simp; done) | (simp; omega)) _
      exact hB1.out
  · have hbb := bank_bd hp3 (a := a) (by omega)
    obtain ⟨j, hj⟩ : ∃ j : Nat, bankI M.page a = (j : Int) := ⟨(bankI M.page a).toNat, by omega⟩
    obtain ⟨q, hq⟩ : ∃ q : Nat, a % 64 = (q : Int) := ⟨(a % 64).toNat, by omega⟩
    have e : pokeM M a x = { M with ram := M.ram.set j ((M.ram.getD j []).set q x) } := by unfold pokeM; rw [if_neg hlt, hj, hq]; rfl
    have hj4 : j < M.ram.length := by omega
    have hrow := bytes_len (hp5 j hj4)
    obtain ⟨bs, os, A, C, rfl, hbs0, hcs0⟩ := rows_fun s2 (by omega)
    have hbs : bs < w.heap.size := by simpa [World.veil] using hbs0
    have hcs : ∀ i, i < M.ram.length → w.cell? ⟨bs, os + i, none⟩ = some (.slice (A i) (M.ram.getD i []).length (C i)) ∧ RowR w (.slice (A i) (M.ram.getD i []).length (C i)) (M.ram.getD i []) := fun i hi => ⟨veil_le w p _ _ _ (hcs0 i hi).1, (hcs0 i hi).2.unveil⟩
    obtain ⟨b3, off3, hA3, hr3⟩ : ∃ b off, A j = some ⟨b, off, none⟩ ∧ ∀ i, i < (M.ram.getD j []).length → w.cell? ⟨b, off + i, none⟩ = some (.int .i64 ((M.ram.getD j []).getD i 0)) := by
      rcases (hcs j hj4).2.disj with h | h
      · rw [h] at hrow; simp at hrow
      · exact h
    have hb3 := World.block_lt_of_cell? w _ (hr3 0 (by omega))
    dsimp only at hb3
    have hjz : ((j : Int) < 0) = False := by simp
    have hlen : 0 < M.ram.length ∧ M.ram.length ≤ 1000 := by omega
    obtain ⟨L, hL⟩ : ∃ L, (M.ram.getD j []).length = L := ⟨_, rfl⟩
    rw [hL] at hrow
    have hrl : 0 < L ∧ L ≤ 1000 ∧ q < L := by omega
    -- what the first append leaves
    have G1 : Hid (∀ w1, Below w.heap.size w w1 → ∀ o j u, ((List.range M.ram.length).map fun i => Value.slice (A i) (M.ram.getD i []).length (C i))[j]? = some u → (w1.alloc o).cell? ((⟨bs, os, none⟩ : Addr).add j) = some u) := fun w1 hb o => news_of_rows (V := fun i => Value.slice (A i) (M.ram.getD i []).length (C i)) (fun i hi => by
      rw [World.cell?_alloc_past _ _ _ (by have := hb.size; omega), hb.cell (p := ⟨bs, os + i, none⟩) hbs]
      exact (hcs i hi).1)
    have G1l : Hid (((List.range M.ram.length).map fun i => Value.slice (A i) (M.ram.getD i []).length (C i)).length = M.ram.length * 1) := by unfold Hid; simp
    have G1o : Hid (∀ u ∈ ((List.range M.ram.length).map fun i => Value.slice (A i) (M.ram.getD i []).length (C i)), u.oneCell' = true) := fun u hu => by
      obtain ⟨i, _, rfl⟩ := List.mem_map.1 hu
      rfl
    have G2 : Hid (∀ w1 w2 g c, Below w.heap.size w w1 → w.heap.size + 1 < w1.heap.size → Blk w1 w.heap.size #[.slice a1 M.rom.length p1, .slice (some ⟨bs, os, none⟩) M.ram.length p2, .int .i64 M.page, .int .i64 M.screen, .bool M.locked] → Blk w1 (w.heap.size + 1) #[.slice none 0 0, .slice none 0 0, .int .i64 0, .int .i64 0, .bool false] →
        w2.ownsRow w1.heap.size 27 1 (.slice (some ⟨g, 0, none⟩) (0 + M.ram.length) c) (0 + M.ram.length) ([] ++ ((List.range M.ram.length).map fun i => Value.slice (A i) (M.ram.getD i []).length (C i))) → (w1.alloc (.cells #[] 27)).grownBy w2 (some w1.heap.size) →
        w1.heap.size ≤ g ∧ (∀ i, i < M.ram.length → w2.cell? ⟨g, i, none⟩ = some (.slice (A i) (M.ram.getD i []).length (C i))) ∧ (∀ i, w2.frozen? ⟨g, i, none⟩ = false) ∧ Below w.heap.size w w2 ∧ Blk w2 w.heap.size #[.slice a1 M.rom.length p1, .slice (some ⟨bs, os, none⟩) M.ram.length p2, .int .i64 M.page, .int .i64 M.screen, .bool M.locked] ∧ Blk w2 (w.heap.size + 1) #[.slice none 0 0, .slice none 0 0, .int .i64 0, .int .i64 0, .bool false] ∧ w1.heap.size < w2.heap.size) := by
      intro w1 w2 g c hb hn q0 q1 h1 h2
      rw [Nat.zero_add, List.nil_append] at h1
      have hg := (h1.lt g rfl).1
      refine ⟨hg, fun i hi => ?_, fun i => h1.frozenAt i, (hb.alloc hb.size _).grown h2 (by simp; have := hb.size; omega) (fun k e => by cases e; exact hb.size), (q0.alloc _).grown h2 (by simp; omega), (q1.alloc _).grown h2 (by simp; omega), by have := h2.size; simp at this; omega⟩
      rw [h1.cellAt i (by omega), List.getElem?_map, List.getElem?_range hi]
      rfl
    have G3 : Hid (∀ w2, Below w.heap.size w w2 → ∀ o i u, ((M.ram.getD j []).map (Value.int .i64))[i]? = some u → (w2.alloc o).cell? ((⟨b3, off3, none⟩ : Addr).add i) = some u) := fun w2 hb o => news_of_row (fun i hi => by
      rw [World.cell?_alloc_past _ _ _ (by have := hb.size; omega), hb.cell (p := ⟨b3, off3 + i, none⟩) hb3]
      exact hr3 i hi)
    have G3l : Hid (((M.ram.getD j []).map (Value.int .i64)).length = L * 1) := by unfold Hid; simpa using hL
    have G4 : Hid (∀ w2 w3 g g2 c2, w.heap.size + 1 < g → g < w2.heap.size → (∀ i, i < M.ram.length → w2.cell? ⟨g, i, none⟩ = some (.slice (A i) (M.ram.getD i []).length (C i))) → (∀ i, w2.frozen? ⟨g, i, none⟩ = false) → Below w.heap.size w w2 → Blk w2 w.heap.size #[.slice a1 M.rom.length p1, .slice (some ⟨bs, os, none⟩) M.ram.length p2, .int .i64 M.page, .int .i64 M.screen, .bool M.locked] → Blk w2 (w.heap.size + 1) #[.slice none 0 0, .slice none 0 0, .int .i64 0, .int .i64 0, .bool false] →
        w3.ownsRow w2.heap.size 3 1 (.slice (some ⟨g2, 0, none⟩) (0 + L) c2) (0 + L) ([] ++ (M.ram.getD j []).map (Value.int .i64)) → (w2.alloc (.cells #[] 3)).grownBy w3 (some w2.heap.size) →
        w2.heap.size ≤ g2 ∧ RowO w3 g2 (.slice (some ⟨g2, 0, none⟩) L c2) (M.ram.getD j []) ∧ (∀ i, i < M.ram.length → w3.cell? ⟨g, i, none⟩ = some (.slice (A i) (M.ram.getD i []).length (C i))) ∧ (∀ i, w3.frozen? ⟨g, i, none⟩ = false) ∧ Below w.heap.size w w3 ∧ Blk w3 w.heap.size #[.slice a1 M.rom.length p1, .slice (some ⟨bs, os, none⟩) M.ram.length p2, .int .i64 M.page, .int .i64 M.screen, .bool M.locked] ∧ Blk w3 (w.heap.size + 1) #[.slice none 0 0, .slice none 0 0, .int .i64 0, .int .i64 0, .bool false]) := by
      intro w2 w3 g g2 c2 hg hg2 k1 k2 hb q0 q1 h1 h2
      rw [Nat.zero_add, List.nil_append] at h1
      obtain ⟨r, hge, _⟩ := RowO.of_owns' h1 hrl.1
      have hs2 := hb.size
      have kb : w3.heap[g]? = w2.heap[g]? := (h2.block g (by simp; omega) (by simp; omega)).trans (Below.heap_alloc _ _ _ hg2)
      exact ⟨hge, r, fun i hi => (World.cell?_of_block (w := w2) (a := ⟨g, i, none⟩) kb).trans (k1 i hi), fun i => (World.frozen?_of_block (w := w2) (a := ⟨g, i, none⟩) kb).trans (k2 i), (hb.alloc hb.size _).grown h2 (by simp; omega) (fun k e => by cases e; omega), (q0.alloc _).grown h2 (by simp; omega), (q1.alloc _).grown h2 (by simp; omega)⟩
    have E : Hid (∀ w3 W' g c g2 c2, w.heap.size + 1 < g → g < g2 → RowO w3 g2 (.slice (some ⟨g2, 0, none⟩) L c2) (M.ram.getD j []) → (∀ i, i < M.ram.length → w3.cell? ⟨g, i, none⟩ = some (.slice (A i) (M.ram.getD i []).length (C i))) →
        (∀ b, w.heap.size + 1 < b → W'.heap[b]? = (((w3.setCell ⟨g, j, none⟩ (.slice (some ⟨g2, 0, none⟩) L c2)).setCell ⟨g2, q, none⟩ (.int .i64 x))).heap[b]?) → Below w.heap.size w W' →
        MemR (W'.veil p) (memV (.slice a1 M.rom.length p1) (.slice (some ⟨g, 0, none⟩) M.ram.length c) M.page M.screen M.locked) (pokeM M a x)) := by
      intro w3 W' g c g2 c2 hg hgg hr k1 k2 hb
      rw [e]
      have pg : p g = false := by cases hq : p g; rfl; have := hp g hq; omega
      have pg2 : p g2 = false := by cases hq : p g2; rfl; have := hp g2 hq; omega
      refine ⟨_, _, rfl, s1.veil_below hb, ?_⟩
      have hro : RowO W' g2 (.slice (some ⟨g2, 0, none⟩) L c2) ((M.ram.getD j []).set q x) :=
        RowO.kept (RowO.set (hr.kept (Below.heap_setCell w3 ⟨g, j, none⟩ (.slice (some ⟨g2, 0, none⟩) L c2) g2 (by simp; omega))) q x) (k2 g2 (by omega))
      refine rows_set (V := fun i => .slice (A i) (M.ram.getD i []).length (C i)) (x := some ⟨g2, 0, none⟩) (n2 := L) (c2 := c2) (fun i hi => ?_) (fun i hi _ => (hcs0 i hi).2.veil_below hb) hj4 (hro.veil pg2).reads
      rw [veil_cell, pg]
      show W'.cell? ⟨g, i, none⟩ = _
      rw [World.cell?_of_block (w := (w3.setCell ⟨g, j, none⟩ (.slice (some ⟨g2, 0, none⟩) L c2)).setCell ⟨g2, q, none⟩ (.int .i64 x)) (a := ⟨g, i, none⟩) (k2 g hg)]
      rw [World.cell?_of_block (w := w3.setCell ⟨g, j, none⟩ (.slice (some ⟨g2, 0, none⟩) L c2)) (a := ⟨g, i, none⟩) (Below.heap_setCell _ _ _ _ (by simp; omega))]
      by_cases ei : i = j
      · subst ei
        rw [if_pos rfl]
        exact World.cell?_setCell_same' _ _ _ (by rw [k1 i hi]; rfl)
      · rw [if_neg ei, World.cell?_setCell_other _ _ _ _ (by intro e; injection e with _ e2 _; exact ei e2.symm)]
        exact k1 i hi
    have hAj : Hid (∀ w2 : World, w2.cell? = w2.cell? ∧ (Value.slice (A j) (M.ram.getD j []).length (C j)) = .slice (some ⟨b3, off3, none⟩) L (C j)) := fun w2 => ⟨rfl, by rw [hA3, hL]⟩
    clear hA3
    replace hL := hid hL
    clear r1 r2 s1 s2 hv hp1 hp5 h e hp2 hrow hcs hcs0 hr3
    go_enter Tryz.func134, Tryz.ntmps134
    go_wp2_with fail
    refine (bank_spec a1 _ _ p1 _ p2 _ _ _ _ _ h0 h1).mono ?_
    rintro e w1 ⟨rfl, hb1⟩
    rw [hj]
    have q0 := ((Blk.new w #[.slice a1 M.rom.length p1, .slice (some ⟨bs, os, none⟩) M.ram.length p2, .int .i64 M.page, .int .i64 M.screen, .bool M.locked] 30).alloc (.cells #[.slice none 0 0, .slice none 0 0, .int .i64 0, .int .i64 0, .bool false] 30)).below hb1 (by simp; omega)
    have q1 := (Blk.new (w.alloc (.cells #[.slice a1 M.rom.length p1, .slice (some ⟨bs, os, none⟩) M.ram.length p2, .int .i64 M.page, .int .i64 M.screen, .bool M.locked] 30)) #[.slice none 0 0, .slice none 0 0, .int .i64 0, .int .i64 0, .bool false] 30).below hb1 (by simp)
    rw [World.size_alloc] at q1
    have hB1 : Below w.heap.size w w1 := (((Below.refl _ _).alloc (Nat.le_refl _) _).alloc (by simp) _).trans (hb1.mono (by simp; omega))
    have x0 := q0.cell
    have hz := q1.lt
    have hzn : w.heap.size < w1.heap.size := by omega
    replace q0 := hid q0
    replace q1 := hid q1
    replace hB1 := hid hB1
    have G0 : Hid ((w1.alloc (.cells #[] 27)).ownsRow w1.heap.size 27 1 (.slice (some ⟨w1.heap.size, 0, none⟩) 0 0) 0 []) := World.ownsRow_lit w1 #[] 0 (Nat.le_refl _) (by decide) rfl
    clear hb1
    go_wp2_with (first | (at_builtin; refine wpList_append_lies _ rfl _ _ 28 rfl w1.heap.size 27 i1 _ 1 24 Tryz.underlying28 hi1 hy0 hy1 hy2 rfl (by omega) _ 0 [] rfl G0.out ⟨bs, os, none⟩ M.ram.length p2 ((List.range M.ram.length).map fun i => Value.slice (A i) (M.ram.getD i []).length (C i)) rfl G1l.out (G1.out w1 hB1.out _) G1o.out hlen.1 (by unfold maxLen; omega) (by omega) (by simp) _ rfl ?_; intro g c w2 ho2 hg2 hat2 hlt2; obtain ⟨hge, kc, kf, hB2, s0, s1, hsz⟩ := G2.out w1 w2 g c hB1.out hz q0.out q1.out ho2 hg2; have kcj : w2.cell? ⟨g, j, none⟩ = some (.slice (some ⟨b3, off3, none⟩) L (C j)) := (by rw [kc j hj4, (hAj.out w2).2]); have y0 := s0.cell; have hzn2 : w.heap.size < w2.heap.size := (by omega); have G0' : Hid ((w2.alloc (.cells #[] 3)).ownsRow w2.heap.size 3 1 (.slice (some ⟨w2.heap.size, 0, none⟩) 0 0) 0 []) := World.ownsRow_lit w2 #[] 0 (Nat.le_refl _) (by decide) rfl; replace kc := hid kc; replace kf := hid kf; replace hB2 := hid hB2; replace s0 := hid s0; replace s1 := hid s1; clear ho2 hg2 hat2 G0 G1 G1l G1o G2 q0 q1 hB1 x0) | (at_builtin; refine wpList_append_lies _ rfl _ _ 27 rfl w2.heap.size 3 i0 _ 1 8 Tryz.underlying27 hi0 hz0 hz1 hz2 rfl (by omega) _ 0 [] rfl G0'.out ⟨b3, off3, none⟩ L (C j) ((M.ram.getD j []).map (Value.int .i64)) rfl G3l.out (G3.out w2 hB2.out _) (one_cells _) hrl.1 (by unfold maxLen; omega) (by omega) (by simp) _ rfl ?_; intro g2 c2 w3 ho3 hg3 hat3 hlt3; obtain ⟨hge2, hro, kc3, kf3, hB3, t0, t1⟩ := G4.out w2 w3 g g2 c2 (by omega) hlt2 kc.out kf.out hB2.out s0.out s1.out ho3 hg3; have kcj3 : w3.cell? ⟨g, j, none⟩ = some (.slice (some ⟨b3, off3, none⟩) L (C j)) := (by rw [kc3 j hj4, (hAj.out w3).2]); have z0 := t0.cell; have z1 := t1.cell; have zf0 := t0.frozen; have zf1 := t1.frozen; have hrq := hro.cell q (by have := hL.out; omega); have hrf := hro.frozen; have hgg : g < g2 := (by omega); replace kc3 := hid kc3; replace hro := hid hro; replace hB3 := hid hB3; clear ho3 hg3 hat3 G0' G3 G3l G4 kc kf hB2 s0 s1 y0 kcj t0 t1))
    refine bodyPost_ret (v := memV (.slice a1 M.rom.length p1) (.slice (some ⟨g, 0, none⟩) M.ram.length c) M.page M.screen M.locked) (by simp [results, Tryz.results134, go_sem, z1]) rfl ⟨_, rfl, ?_, ?_⟩
    · refine E.out w3 _ g c g2 c2 (by omega) hgg hro.out kc3.out (fun b hb => ?_) ?_
      · iterate 6 rw [Below.heap_setCell _ _ _ _ (by simp; omega)]
      · iterate 8 refine Below.setCell ?_ (by first | omega | (simp; done) | (simp; omega)) _
        exact hB3.out
    · iterate 8 refine Below.setCell ?_ (by first | omega | (simp; done) | (simp; omega)) _
      exact hB3.out
end Go.Proofs.YtgpmpfikeindfaaGreatDoor
