/- What the specification's write into a memory answers. -/
import Derived.Test.YtgpmpfikeindfaaGreatDoorV03
import Derived.Test.YtgpmpfikeindfaaGreatDoorV00
import Derived.Laws.BitsAllLaws
import Derived.WalkKit
import Derived.ProofKit
import Derived.Lib.Tables
namespace Go.Proofs.YtgpmpfikeindfaaGreatDoor
open Go.ChangeShapes Go.WideShapes Go.ChangeAt Go.RowKit
set_option linter.unusedVariables false

/-- a memory behind a write -/
def pokeM (M : Mem) (a v : Int) : Mem := if a < 64 then M else { M with ram := M.ram.set (bankI M.page a).toNat ((M.ram.getD (bankI M.page a).toNat []).set (a % 64).toNat v) }
theorem bytes_set {zs : List Int} {n k : Nat} {v : Int} (h : bytesB zs n = true) (hv : inB v 0 255 = true) : bytesB (zs.set k v) n = true := by
  have hl := bytes_len h
  rw [bytes_all (fun i hi => ?_), List.length_set, hl]
  · simp
  · rw [List.length_set] at hi
    by_cases e : k = i
    · subst e
      rw [List.getD_eq_getElem?_getD, List.getElem?_set_self hi]
      exact hv
    · rw [List.getD_eq_getElem?_getD, List.getElem?_set_ne e, ← List.getD_eq_getElem?_getD]
      exact bytes_at h hi
theorem poke_ok {M : Mem} {a v : Int} (h : okM M = true) (hv : inB v 0 255 = true) : okM (pokeM M a v) = true := by
  obtain ⟨h1, h2, h3, h4, h5⟩ := ok_parts h
  unfold pokeM
  split
  · exact h
  · refine ok_all h1 (by rw [List.length_set]; exact h2) (in_yes h3.1 h3.2) h4 (fun i hi => ?_)
    by_cases e : (bankI M.page a).toNat = i
    · subst e
      rw [List.getD_eq_getElem?_getD, List.getElem?_set_self (by omega)]
      exact bytes_set (h5 _ (by omega)) hv
    · rw [List.getD_eq_getElem?_getD, List.getElem?_set_ne e, ← List.getD_eq_getElem?_getD]
      exact h5 i (by omega)
theorem rows_set {W : World} {g c j n2 : Nat} {x : Option Addr} {c2 : Nat} {V : Nat → Value} {zss : List (List Int)} {zs' : List Int} (hsp : ∀ i, i < zss.length → W.cell? ⟨g, i, none⟩ = some (if i = j then .slice x n2 c2 else V i))
    (hV : ∀ i, i < zss.length → i ≠ j → RowR W (V i) (zss.getD i [])) (hj : j < zss.length) (hr : RowR W (.slice x n2 c2) zs') : RowsR W (.slice (some ⟨g, 0, none⟩) zss.length c) (zss.set j zs') := by
  refine ⟨_, c, by rw [List.length_set], .inr ⟨g, 0, rfl, fun i hi => ?_⟩⟩
  rw [List.length_set] at hi
  refine ⟨_, by rw [Nat.zero_add]; exact hsp i hi, ?_⟩
  by_cases e : i = j
  · subst e
    rw [if_pos rfl, List.getD_eq_getElem?_getD, List.getElem?_set_self hi]
    exact hr
  · rw [if_neg e, List.getD_eq_getElem?_getD, List.getElem?_set_ne (fun h => e h.symm), ← List.getD_eq_getElem?_getD]
    exact hV i hi e
theorem news_of_rows {w : World} {b off : Nat} {V : Nat → Value} {n : Nat} (h : ∀ i, i < n → w.cell? ⟨b, off + i, none⟩ = some (V i)) :
    ∀ j u, ((List.range n).map V)[j]? = some u → w.cell? ((⟨b, off, none⟩ : Addr).add j) = some u := by
  intro j u hu
  have hj : j < n := by
    have := (List.getElem?_eq_some_iff.1 hu).1
    simpa using this
  rw [add_plain, h j hj, ← hu, List.getElem?_map, List.getElem?_range hj]
  rfl
theorem rows_fun {w : World} {a : Option Addr} {n cap : Nat} {zss : List (List Int)} (h : RowsR w (.slice a n cap) zss) (h0 : 0 < zss.length) :
    ∃ b off, ∃ (A : Nat → Option Addr) (C : Nat → Nat), a = some ⟨b, off, none⟩ ∧ b < w.heap.size ∧ ∀ i, i < zss.length → w.cell? ⟨b, off + i, none⟩ = some (.slice (A i) (zss.getD i []).length (C i)) ∧ RowR w (.slice (A i) (zss.getD i []).length (C i)) (zss.getD i []) := by
  rcases h.disj with h | ⟨b, off, h1, h2⟩
  · rw [h] at h0
    simp at h0
  · have h3 : ∀ i, i < zss.length → ∃ y : Option Addr × Nat, w.cell? ⟨b, off + i, none⟩ = some (.slice y.1 (zss.getD i []).length y.2) ∧ RowR w (.slice y.1 (zss.getD i []).length y.2) (zss.getD i []) := by
      intro i hi
      obtain ⟨u, k1, k2⟩ := h2 i hi
      obtain ⟨a', cap', rfl, _⟩ := id k2
      exact ⟨(a', cap'), k1, k2⟩
    obtain ⟨f, hf⟩ := Go.Deep.choose_lt h3
    exact ⟨b, off, fun i => (f i).1, fun i => (f i).2, h1, World.block_lt_of_cell? w _ (hf 0 h0).1, hf⟩
set_option maxRecDepth 100000 in
set_option maxHeartbeats 2000000 in
theorem poke0_spec (v : Value) (M : Mem) (a x : Int) (w : World) (h : MemR w v M) (hk : okM M = true) (h0 : 0 ≤ a) (h1 : a ≤ 255) :
    Calls Tryz.prog 134 #[v, .int .i64 a, .int .i64 x] w fun e w' => ∃ u, e = .returned u ∧ MemR w' u (pokeM M a x) ∧ Below w.heap.size w w' := by
  obtain ⟨i0, hi0, hz0, hz1, hz2⟩ := info_parts infoI1
  obtain ⟨i1, hi1, hy0, hy1, hy2⟩ := info_parts infoI2
  obtain ⟨hp1, hp2, hp3, _, hp5⟩ := ok_parts hk
  obtain ⟨a1, p1, a2, p2, rfl, r1, r2⟩ := h.form
  by_cases hlt : a < 64
  · have e : pokeM M a x = M := by unfold pokeM; rw [if_pos hlt]
    have eb : bankI M.page a = -1 := by unfold bankI; rw [if_pos hlt]
    have E : Hid (∀ W', Below w.heap.size w W' → MemR W' (memV (.slice a1 M.rom.length p1) (.slice a2 M.ram.length p2) M.page M.screen M.locked) (pokeM M a x)) := fun W' hb => by rw [e]; exact h.below hb
    clear r1 r2 hp1 hp5 h e hp2
    go_enter Tryz.func134, Tryz.ntmps134
    go_wp2_with fail
    refine (bank_spec a1 a2 _ p1 _ p2 _ _ _ _ _ h0 h1).mono ?_
    rintro e w1 ⟨rfl, hb1⟩
    rw [eb]
    have hz := hb1.size
    simp only [World.size_alloc] at hz
    have hB1 : Hid (Below w.heap.size w w1) := (((Below.refl _ _).alloc (Nat.le_refl _) _).alloc (by simp) _).trans (hb1.mono (by simp; omega))
    have hc := fun i => (bcell hb1).1 w.heap.size i (by simp; omega)
    have hd := fun i => (bcell hb1).1 (w.heap.size + 1) i (by simp)
    have hf := fun i => (bcell hb1).2 (w.heap.size + 1) i (by simp)
    clear hb1
    go_wp2
    refine bodyPost_ret (v := memV (.slice a1 M.rom.length p1) (.slice a2 M.ram.length p2) M.page M.screen M.locked) (by simp [results, Tryz.results134, go_sem, hd]) rfl ⟨_, rfl, E.out _ ?_, ?_⟩
    · iterate 5 refine Below.setCell ?_ (by first | omega | (simp; done) | (simp; omega)) _
      exact hB1.out
    · iterate 5 refine Below.setCell ?_ (by first | omega | (simp; done) | (simp; omega)) _
      exact hB1.out
  · have hbb := bank_bd hp3 (a := a) (by omega)
    obtain ⟨j, hj⟩ : ∃ j : Nat, bankI M.page a = (j : Int) := ⟨(bankI M.page a).toNat, by omega⟩
    obtain ⟨q, hq⟩ : ∃ q : Nat, a % 64 = (q : Int) := ⟨(a % 64).toNat, by omega⟩
    have e : pokeM M a x = { M with ram := M.ram.set j ((M.ram.getD j []).set q x) } := by unfold pokeM; rw [if_neg hlt, hj, hq]; rfl
    have hj4 : j < M.ram.length := by omega
    have hrow := bytes_len (hp5 j hj4)
    obtain ⟨bs, os, A, C, rfl, hbs, hcs⟩ := rows_fun r2 (by omega)
    obtain ⟨b3, off3, hA3, hr3⟩ : ∃ b off, A j = some ⟨b, off, none⟩ ∧ ∀ i, i < (M.ram.getD j []).length → w.cell? ⟨b, off + i, none⟩ = some (.int .i64 ((M.ram.getD j []).getD i 0)) := by
      rcases (hcs j hj4).2.disj with h | h
      · rw [h] at hrow; simp at hrow
      · exact h
    have hb3 := World.block_lt_of_cell? w _ (hr3 0 (by omega))
    dsimp only at hb3
    have hjz : ((j : Int) < 0) = False := by simp
    have hlen : 0 < M.ram.length ∧ M.ram.length ≤ 1000 := by omega
    obtain ⟨L, hL⟩ : ∃ L, (M.ram.getD j []).length = L := ⟨_, rfl⟩
    rw [hL] at hrow
    have hrl : 0 < L ∧ L ≤ 1000 ∧ q < L := by omega
    -- what the first append leaves
    have G1 : Hid (∀ w1, Below w.heap.size w w1 → ∀ o j u, ((List.range M.ram.length).map fun i => Value.slice (A i) (M.ram.getD i []).length (C i))[j]? = some u → (w1.alloc o).cell? ((⟨bs, os, none⟩ : Addr).add j) = some u) := fun w1 hb o => news_of_rows (V := fun i => Value.slice (A i) (M.ram.getD i []).length (C i)) (fun i hi => by
      rw [World.cell?_alloc_past _ _ _ (by have := hb.size; omega), hb.cell (p := ⟨bs, os + i, none⟩) hbs]
      exact (hcs i hi).1)
    have G1l : Hid (((List.range M.ram.length).map fun i => Value.slice (A i) (M.ram.getD i []).length (C i)).length = M.ram.length * 1) := by unfold Hid; simp
    have G1o : Hid (∀ u ∈ ((List.range M.ram.length).map fun i => Value.slice (A i) (M.ram.getD i []).length (C i)), u.oneCell' = true) := fun u hu => by
      obtain ⟨i, _, rfl⟩ := List.mem_map.1 hu
      rfl
    have G2 : Hid (∀ w1 w2 g c, Below w.heap.size w w1 → w.heap.size + 1 < w1.heap.size → Blk w1 w.heap.size #[.slice a1 M.rom.length p1, .slice (some ⟨bs, os, none⟩) M.ram.length p2, .int .i64 M.page, .int .i64 M.screen, .bool M.locked] → Blk w1 (w.heap.size + 1) #[.slice none 0 0, .slice none 0 0, .int .i64 0, .int .i64 0, .bool false] →
        w2.ownsRow w1.heap.size 27 1 (.slice (some ⟨g, 0, none⟩) (0 + M.ram.length) c) (0 + M.ram.length) ([] ++ ((List.range M.ram.length).map fun i => Value.slice (A i) (M.ram.getD i []).length (C i))) → (w1.alloc (.cells #[] 27)).grownBy w2 (some w1.heap.size) →
        w1.heap.size ≤ g ∧ (∀ i, i < M.ram.length → w2.cell? ⟨g, i, none⟩ = some (.slice (A i) (M.ram.getD i []).length (C i))) ∧ (∀ i, w2.frozen? ⟨g, i, none⟩ = false) ∧ Below w.heap.size w w2 ∧ Blk w2 w.heap.size #[.slice a1 M.rom.length p1, .slice (some ⟨bs, os, none⟩) M.ram.length p2, .int .i64 M.page, .int .i64 M.screen, .bool M.locked] ∧ Blk w2 (w.heap.size + 1) #[.slice none 0 0, .slice none 0 0, .int .i64 0, .int .i64 0, .bool false] ∧ w1.heap.size < w2.heap.size) := by
      intro w1 w2 g c hb hn q0 q1 h1 h2
      rw [Nat.zero_add, List.nil_append] at h1
      have hg := (h1.lt g rfl).1
      refine ⟨hg, fun i hi => ?_, fun i => h1.frozenAt i, (hb.alloc hb.size _).grown h2 (by simp; have := hb.size; omega) (fun k e => by cases e; exact hb.size), (q0.alloc _).grown h2 (by simp; omega), (q1.alloc _).grown h2 (by simp; omega), by have := h2.size; simp at this; omega⟩
      rw [h1.cellAt i (by omega), List.getElem?_map, List.getElem?_range hi]
      rfl
    have G3 : Hid (∀ w2, Below w.heap.size w w2 → ∀ o i u, ((M.ram.getD j []).map (Value.int .i64))[i]? = some u → (w2.alloc o).cell? ((⟨b3, off3, none⟩ : Addr).add i) = some u) := fun w2 hb o => news_of_row (fun i hi => by
      rw [World.cell?_alloc_past _ _ _ (by have := hb.size; omega), hb.cell (p := ⟨b3, off3 + i, none⟩) hb3]
      exact hr3 i hi)
    have G3l : Hid (((M.ram.getD j []).map (Value.int .i64)).length = L * 1) := by unfold Hid; simpa using hL
    have G4 : Hid (∀ w2 w3 g g2 c2, w.heap.size + 1 < g → g < w2.heap.size → (∀ i, i < M.ram.length → w2.cell? ⟨g, i, none⟩ = some (.slice (A i) (M.ram.getD i []).length (C i))) → (∀ i, w2.frozen? ⟨g, i, none⟩ = false) → Below w.heap.size w w2 → Blk w2 w.heap.size #[.slice a1 M.rom.length p1, .slice (some ⟨bs, os, none⟩) M.ram.length p2, .int .i64 M.page, .int .i64 M.screen, .bool M.locked] → Blk w2 (w.heap.size + 1) #[.slice none 0 0, .slice none 0 0, .int .i64 0, .int .i64 0, .bool false] →
        w3.ownsRow w2.heap.size 3 1 (.slice (some ⟨g2, 0, none⟩) (0 + L) c2) (0 + L) ([] ++ (M.ram.getD j []).map (Value.int .i64)) → (w2.alloc (.cells #[] 3)).grownBy w3 (some w2.heap.size) →
        w2.heap.size ≤ g2 ∧ RowO w3 g2 (.slice (some ⟨g2, 0, none⟩) L c2) (M.ram.getD j []) ∧ (∀ i, i < M.ram.length → w3.cell? ⟨g, i, none⟩ = some (.slice (A i) (M.ram.getD i []).length (C i))) ∧ (∀ i, w3.frozen? ⟨g, i, none⟩ = false) ∧ Below w.heap.size w w3 ∧ Blk w3 w.heap.size #[.slice a1 M.rom.length p1, .slice (some ⟨bs, os, none⟩) M.ram.length p2, .int .i64 M.page, .int .i64 M.screen, .bool M.locked] ∧ Blk w3 (w.heap.size + 1) #[.slice none 0 0, .slice none 0 0, .int .i64 0, .int .i64 0, .bool false]) := by
      intro w2 w3 g g2 c2 hg hg2 k1 k2 hb q0 q1 h1 h2
      rw [Nat.zero_add, List.nil_append] at h1
      obtain ⟨r, hge, _⟩ := RowO.of_owns' h1 hrl.1
      have hs2 := hb.size
      have kb : w3.heap[g]? = w2.heap[g]? := (h2.block g (by simp; omega) (by simp; omega)).trans (Below.heap_alloc _ _ _ hg2)
      exact ⟨hge, r, fun i hi => (World.cell?_of_block (w := w2) (a := ⟨g, i, none⟩) kb).trans (k1 i hi), fun i => (World.frozen?_of_block (w := w2) (a := ⟨g, i, none⟩) kb).trans (k2 i), (hb.alloc hb.size _).grown h2 (by simp; omega) (fun k e => by cases e; omega), (q0.alloc _).grown h2 (by simp; omega), (q1.alloc _).grown h2 (by simp; omega)⟩
    have E : Hid (∀ w3 W' g c g2 c2, w.heap.size + 1 < g → g < g2 → RowO w3 g2 (.slice (some ⟨g2, 0, none⟩) L c2) (M.ram.getD j []) → (∀ i, i < M.ram.length → w3.cell? ⟨g, i, none⟩ = some (.slice (A i) (M.ram.getD i []).length (C i))) →
        (∀ b, w.heap.size + 1 < b → W'.heap[b]? = (((w3.setCell ⟨g, j, none⟩ (.slice (some ⟨g2, 0, none⟩) L c2)).setCell ⟨g2, q, none⟩ (.int .i64 x))).heap[b]?) → Below w.heap.size w W' →
        MemR W' (memV (.slice a1 M.rom.length p1) (.slice (some ⟨g, 0, none⟩) M.ram.length c) M.page M.screen M.locked) (pokeM M a x)) := by
      intro w3 W' g c g2 c2 hg hgg hr k1 k2 hb
      rw [e]
      refine ⟨_, _, rfl, r1.below hb, ?_⟩
      have hro : RowO W' g2 (.slice (some ⟨g2, 0, none⟩) L c2) ((M.ram.getD j []).set q x) :=
        RowO.kept (RowO.set (hr.kept (Below.heap_setCell w3 ⟨g, j, none⟩ (.slice (some ⟨g2, 0, none⟩) L c2) g2 (by simp; omega))) q x) (k2 g2 (by omega))
      refine rows_set (V := fun i => .slice (A i) (M.ram.getD i []).length (C i)) (x := some ⟨g2, 0, none⟩) (n2 := L) (c2 := c2) (fun i hi => ?_) (fun i hi _ => (hcs i hi).2.below hb) hj4 hro.reads
      rw [World.cell?_of_block (w := (w3.setCell ⟨g, j, none⟩ (.slice (some ⟨g2, 0, none⟩) L c2)).setCell ⟨g2, q, none⟩ (.int .i64 x)) (a := ⟨g, i, none⟩) (k2 g hg)]
      rw [World.cell?_of_block (w := w3.setCell ⟨g, j, none⟩ (.slice (some ⟨g2, 0, none⟩) L c2)) (a := ⟨g, i, none⟩) (Below.heap_setCell _ _ _ _ (by simp; omega))]
      by_cases ei : i = j
      · subst ei
        rw [if_pos rfl]
        exact World.cell?_setCell_same' _ _ _ (by rw [k1 i hi]; rfl)
      · rw [if_neg ei, World.cell?_setCell_other _ _ _ _ (by intro e; injection e with _ e2 _; exact ei e2.symm)]
        exact k1 i hi
    have hAj : Hid (∀ w2 : World, w2.cell? = w2.cell? ∧ (Value.slice (A j) (M.ram.getD j []).length (C j)) = .slice (some ⟨b3, off3, none⟩) L (C j)) := fun w2 => ⟨rfl, by rw [hA3, hL]⟩
    clear hA3
    replace hL := hid hL
    clear r1 r2 hp1 hp5 h e hp2 hrow hcs hr3
    go_enter Tryz.func134, Tryz.ntmps134
    go_wp2_with fail
    refine (bank_spec a1 _ _ p1 _ p2 _ _ _ _ _ h0 h1).mono ?_
    rintro e w1 ⟨rfl, hb1⟩
    rw [hj]
    have q0 := ((Blk.new w #[.slice a1 M.rom.length p1, .slice (some ⟨bs, os, none⟩) M.ram.length p2, .int .i64 M.page, .int .i64 M.screen, .bool M.locked] 30).alloc (.cells #[.slice none 0 0, .slice none 0 0, .int .i64 0, .int .i64 0, .bool false] 30)).below hb1 (by simp; omega)
    have q1 := (Blk.new (w.alloc (.cells #[.slice a1 M.rom.length p1, .slice (some ⟨bs, os, none⟩) M.ram.length p2, .int .i64 M.page, .int .i64 M.screen, .bool M.locked] 30)) #[.slice none 0 0, .slice none 0 0, .int .i64 0, .int .i64 0, .bool false] 30).below hb1 (by simp)
    rw [World.size_alloc] at q1
    have hB1 : Below w.heap.size w w1 := (((Below.refl _ _).alloc (Nat.le_refl _) _).alloc (by simp) _).trans (hb1.mono (by simp; omega))
    have x0 := q0.cell
    have hz := q1.lt
    have hzn : w.heap.size < w1.heap.size := by omega
    replace q0 := hid q0
    replace q1 := hid q1
    replace hB1 := hid hB1
    have G0 : Hid ((w1.alloc (.cells #[] 27)).ownsRow w1.heap.size 27 1 (.slice (some ⟨w1.heap.size, 0, none⟩) 0 0) 0 []) := World.ownsRow_lit w1 #[] 0 (Nat.le_refl _) (by decide) rfl
    clear hb1
    go_wp2_with (first | (at_builtin; refine wpList_append_lies _ rfl _ _ 28 rfl w1.heap.size 27 i1 _ 1 24 Tryz.underlying28 hi1 hy0 hy1 hy2 rfl (by omega) _ 0 [] rfl G0.out ⟨bs, os, none⟩ M.ram.length p2 ((List.range M.ram.length).map fun i => Value.slice (A i) (M.ram.getD i []).length (C i)) rfl G1l.out (G1.out w1 hB1.out _) G1o.out hlen.1 (by unfold maxLen; omega) (by omega) (by simp) _ rfl ?_; intro g c w2 ho2 hg2 hat2 hlt2; obtain ⟨hge, kc, kf, hB2, s0, s1, hsz⟩ := G2.out w1 w2 g c hB1.out hz q0.out q1.out ho2 hg2; have kcj : w2.cell? ⟨g, j, none⟩ = some (.slice (some ⟨b3, off3, none⟩) L (C j)) := (by rw [kc j hj4, (hAj.out w2).2]); have y0 := s0.cell; have hzn2 : w.heap.size < w2.heap.size := (by omega); have G0' : Hid ((w2.alloc (.cells #[] 3)).ownsRow w2.heap.size 3 1 (.slice (some ⟨w2.heap.size, 0, none⟩) 0 0) 0 []) := World.ownsRow_lit w2 #[] 0 (Nat.le_refl _) (by decide) rfl; replace kc := hid kc; replace kf := hid kf; replace hB2 := hid hB2; replace s0 := hid s0; replace s1 := hid s1; clear ho2 hg2 hat2 G0 G1 G1l G1o G2 q0 q1 hB1 x0) | (at_builtin; refine wpList_append_lies _ rfl _ _ 27 rfl w2.heap.size 3 i0 _ 1 8 Tryz.underlying27 hi0 hz0 hz1 hz2 rfl (by omega) _ 0 [] rfl G0'.out ⟨b3, off3, none⟩ L (C j) ((M.ram.getD j []).map (Value.int .i64)) rfl G3l.out (G3.out w2 hB2.out _) (one_cells _) hrl.1 (by unfold maxLen; omega) (by omega) (by simp) _ rfl ?_; intro g2 c2 w3 ho3 hg3 hat3 hlt3; obtain ⟨hge2, hro, kc3, kf3, hB3, t0, t1⟩ := G4.out w2 w3 g g2 c2 (by omega) hlt2 kc.out kf.out hB2.out s0.out s1.out ho3 hg3; have kcj3 : w3.cell? ⟨g, j, none⟩ = some (.slice (some ⟨b3, off3, none⟩) L (C j)) := (by rw [kc3 j hj4, (hAj.out w3).2]); have z0 := t0.cell; have z1 := t1.cell; have zf0 := t0.frozen; have zf1 := t1.frozen; have hrq := hro.cell q (by have := hL.out; omega); have hrf := hro.frozen; have hgg : g < g2 := (by omega); replace kc3 := hid kc3; replace hro := hid hro; replace hB3 := hid hB3; clear ho3 hg3 hat3 G0' G3 G3l G4 kc kf hB2 s0 s1 y0 kcj t0 t1))
    refine bodyPost_ret (v := memV (.slice a1 M.rom.length p1) (.slice (some ⟨g, 0, none⟩) M.ram.length c) M.page M.screen M.locked) (by simp [results, Tryz.results134, go_sem, z1]) rfl ⟨_, rfl, ?_, ?_⟩
    · refine E.out w3 _ g c g2 c2 (by omega) hgg hro.out kc3.out (fun b hb => ?_) ?_
      · iterate 6 rw [Below.heap_setCell _ _ _ _ (by simp; omega)]
      · iterate 8 refine Below.setCell ?_ (by first | omega | (simp; done) | (simp; omega)) _
        exact hB3.out
    · iterate 8 refine Below.setCell ?_ (by first | omega | (simp; done) | (simp; omega)) _
      exact hB3.out
/-- what a write answers: the code, and the memory -/
def pokeC (M : Mem) (a v : Int) : Int := if askM M a = 0 then (if inB v 0 255 = true then 0 else 4) else askM M a
def pokeR (M : Mem) (a v : Int) : Mem := if pokeC M a v = 0 then pokeM M a v else mem0
end Go.Proofs.YtgpmpfikeindfaaGreatDoor

/- Bits of small numbers at int: and, or, exclusive or of numbers below 65536 are those of natural numbers; a loop over all numbers below a bound, for the kernel. -/
namespace Go.Proofs.YtgpmpfikeindfaaGreatDoor
open Go.ChangeShapes Go.WideShapes Go.ChangeAt Go.RowKit
set_option linter.unusedVariables false

theorem bOf (a : Nat) (ha : a < 65536) : ((a : Int) % ((2 ^ 64 : Nat) : Int)).toNat = a := by omega
theorem bAnd (a b : Nat) (ha : a < 65536) (hb : b < 65536) : bits .and .i64 (a : Int) (b : Int) = ((Nat.land a b : Nat) : Int) := by
  have hx : Nat.land a b < 2 ^ 16 := Nat.and_lt_two_pow _ (by omega)
  show IntKind.i64.wrap ((BitVec.ofInt 64 (a : Int) &&& BitVec.ofInt 64 (b : Int)).toNat : Int) = _
  rw [BitVec.toNat_and, BitVec.toNat_ofInt, BitVec.toNat_ofInt, IntKind.wrap_i64, bOf a ha, bOf b hb]
  show (((Nat.land a b : Nat) : Int) + _) % _ - _ = _
  omega
theorem bOr (a b : Nat) (ha : a < 65536) (hb : b < 65536) : bits .or .i64 (a : Int) (b : Int) = ((Nat.lor a b : Nat) : Int) := by
  have hx : Nat.lor a b < 2 ^ 16 := Nat.or_lt_two_pow (by omega) (by omega)
  show IntKind.i64.wrap ((BitVec.ofInt 64 (a : Int) ||| BitVec.ofInt 64 (b : Int)).toNat : Int) = _
  rw [BitVec.toNat_or, BitVec.toNat_ofInt, BitVec.toNat_ofInt, IntKind.wrap_i64, bOf a ha, bOf b hb]
  show (((Nat.lor a b : Nat) : Int) + _) % _ - _ = _
  omega
theorem bXor (a b : Nat) (ha : a < 65536) (hb : b < 65536) : bits .xor .i64 (a : Int) (b : Int) = ((Nat.xor a b : Nat) : Int) := by
  have hx : Nat.xor a b < 2 ^ 16 := Nat.xor_lt_two_pow (by omega) (by omega)
  show IntKind.i64.wrap ((BitVec.ofInt 64 (a : Int) ^^^ BitVec.ofInt 64 (b : Int)).toNat : Int) = _
  rw [BitVec.toNat_xor, BitVec.toNat_ofInt, BitVec.toNat_ofInt, IntKind.wrap_i64, bOf a ha, bOf b hb]
  show (((Nat.xor a b : Nat) : Int) + _) % _ - _ = _
  omega

/-- a test over all numbers below n, in the kernel's own steps -/
def allB (n : Nat) (p : Nat → Bool) : Bool := Nat.rec true (fun k r => and (p k) r) n
theorem allB_at {n : Nat} {p : Nat → Bool} (h : allB n p = true) (k : Nat) (hk : k < n) : p k = true := by
  induction n with
  | zero => omega
  | succ n ih =>
    have h' : (and (p n) (allB n p)) = true := h
    rw [Bool.and_eq_true] at h'
    by_cases e : k = n
    · rw [e]; exact h'.1
    · exact ih h'.2 (by omega)
/-- 1 of true -/
def btN (b : Bool) : Nat := cond b 1 0
end Go.Proofs.YtgpmpfikeindfaaGreatDoor

/- What impl.Parity and spec.Parity answer, and the functions that they call: both are the one test parB, in every world, which stays as it was. -/
namespace Go.Proofs.YtgpmpfikeindfaaGreatDoor
open Go.ChangeShapes Go.WideShapes Go.ChangeAt Go.RowKit
set_option linter.unusedVariables false

def prf : Nat → Nat → Bool
  | 0, _ => false
  | f + 1, n => (n % 2 == 1) != prf f (n / 2)
theorem prf_zero (f : Nat) : prf f 0 = false := by
  induction f with
  | zero => rfl
  | succ f ih => simp [prf, ih]
theorem i64_and1 (n : Nat) (h : n < 256) : bits .and .i64 (n : Int) 1 = ((n % 2 : Nat) : Int) := by
  show IntKind.i64.wrap ((BitVec.ofInt 64 (n : Int) &&& BitVec.ofInt 64 1).toNat : Nat) = _
  have h1 : (BitVec.ofInt 64 1).toNat = 1 := by decide
  rw [BitVec.toNat_and, BitVec.toNat_ofInt, h1, Nat.and_one_is_mod, IntKind.wrap_i64]
  omega
theorem pop8_par : ∀ v : Fin 256, (Lib.pop8 (v.val : Int) % 2 == 0) = !prf 8 v.val := by decide +kernel

set_option maxRecDepth 100000 in
theorem ones_any (x : Int) (w : World) (h0 : 0 ≤ x) (h1 : x ≤ 255) : Calls Tryz.prog 164 #[.int .u8 x] w fun e w' => e = .returned (.int .i64 (wrap64 (Lib.pop8 x))) ∧ w' = w := by
  go_enter Tryz.func164, Tryz.ntmps164
  go_wp2
  go_ret
  exact ⟨ret_int rfl, rfl⟩
theorem round_par {e : Bool} {f n : Nat} (h : 0 < n) (hn : n < 2 ^ f) (hn2 : n < 256) {B : Bool} (H : (e != prf f n) = B) :
    ∃ (f' n' : Nat) (e' : Bool), n' < 2 ^ f' ∧ n' < 256 ∧ Value.int .i64 ((n : Int) / 2) = .int .i64 n' ∧ Value.bool (!(e == (bits BinOp.and IntKind.i64 (n : Int) 1 == 1))) = .bool e' ∧ (e' != prf f' n') = B := by
  cases f with
  | zero => simp at hn; omega
  | succ f =>
    refine ⟨f, n / 2, _, by rw [Nat.pow_succ] at hn; omega, by omega, by simp, rfl, ?_⟩
    rw [← H, i64_and1 n hn2]
    simp only [prf]
    have : (((n % 2 : Nat) : Int) == 1) = (n % 2 == 1) := by rw [Bool.eq_iff_iff]; simp; omega
    rw [this]
    cases e <;> cases (n % 2 == 1) <;> cases prf f (n / 2) <;> rfl
theorem par_spec (v : Nat) (w : World) (hv : v < 256) : Calls Tryz.prog 140 #[.int .i64 v] w fun e w' => e = .returned (.bool (!prf 8 v)) ∧ w' = w := by
  go_enter Tryz.func140, Tryz.ntmps140
  go_wp2
  go_loop [0, 3] (fun x b => ∃ (f n : Nat) (e : Bool), n < 2 ^ f ∧ n < 256 ∧ x = .int .i64 n ∧ b = .bool e ∧ (e != prf f n) = (!prf 8 v)) (fun x _ => (intOf x).toNat)
  case atStart => exact ⟨8, v, true, by omega, by omega, rfl, rfl, by simp⟩
  case round =>
    obtain ⟨f, n, e, hn, hn2, rfl, rfl, h⟩ := hrel
    have HA : Hid ((e != prf f n) = (!prf 8 v)) := h
    clear h
    by_cases hlt : 0 < n
    · go_wp2
      go_round
      case rel => exact round_par hlt hn hn2 HA.out
      case measure => simp [intOf]; omega
    · obtain rfl : n = 0 := by omega
      go_wp2
      go_ret
      exact ⟨by rw [← HA.out, prf_zero]; simp, rfl⟩
theorem pop8_wrap : ∀ v : Fin 256, wrap64 (Lib.pop8 (v.val : Int)) = Lib.pop8 (v.val : Int) ∧ 0 ≤ Lib.pop8 (v.val : Int) ∧ Lib.pop8 (v.val : Int) ≤ 8 := by decide +kernel
def parB (v : Int) : Bool := decide (0 ≤ v ∧ v ≤ 255) && !prf 8 v.toNat
theorem parB_no {v : Int} (h : ¬ (0 ≤ v ∧ v ≤ 255)) : false = parB v := by unfold parB; rw [decide_eq_false h]; rfl
theorem par_impl (v : Int) (w : World) : Calls Tryz.prog 161 #[.int .i64 v] w fun e w' => e = .returned (.bool (parB v)) ∧ w' = w := by
  by_cases h0 : 0 ≤ v
  · by_cases h1 : v ≤ 255
    · have hp := pop8_par ⟨v.toNat, by omega⟩
      obtain ⟨hw, hp0, hp8⟩ := pop8_wrap ⟨v.toNat, by omega⟩
      have e : ((v.toNat : Nat) : Int) = v := by omega
      simp only [e] at hp hw hp0 hp8
      have HP : Hid ((Lib.pop8 v % 2 == 0) = !prf 8 v.toNat) := hp
      clear hp e
      go_enter Tryz.func161, Tryz.ntmps161
      go_wp2_with (first | (go_at_call 164; refine (ones_any _ _ (by omega) (by omega)).mono ?_; rintro e w' ⟨rfl, rfl⟩) | go_in)
      go_ret
      exact ⟨ret_bool (by unfold parB; rw [← HP.out]; simp [h0, h1]), rfl⟩
    · go_enter Tryz.func161, Tryz.ntmps161
      go_wp2
      go_ret
      exact ⟨ret_bool (parB_no (by omega)), rfl⟩
  · go_enter Tryz.func161, Tryz.ntmps161
    go_wp2
    go_ret
    exact ⟨ret_bool (parB_no (by omega)), rfl⟩
end Go.Proofs.YtgpmpfikeindfaaGreatDoor

/- What the specification's unit answers, part by part, as plain functions of natural numbers. -/
namespace Go.Proofs.YtgpmpfikeindfaaGreatDoor
open Go.ChangeShapes Go.WideShapes Go.ChangeAt Go.RowKit
set_option linter.unusedVariables false

def szN (v : Nat) : Nat := Nat.lor (Nat.land v 168) (Nat.mul 64 (btN (Nat.beq v 0)))
theorem szN_lt (v : Nat) (hv : v < 256) : szN v < 256 := by
  have h1 : Nat.land v 168 < 2 ^ 8 := Nat.and_lt_two_pow _ (by omega)
  have h2 : Nat.mul 64 (btN (Nat.beq v 0)) < 2 ^ 8 := by unfold btN; cases Nat.beq v 0 <;> decide
  exact Nat.or_lt_two_pow h1 h2
theorem sz_all : allB 256 (fun v => or (Nat.beq v 0) (decide (bits .or .i64 (bits .and .i64 (Int.ofNat v) 168) 0 = Int.ofNat (szN v)))) = true := by decide +kernel
theorem sz_end (v : Nat) (hv : v < 256) (h : v ≠ 0) : bits .or .i64 (bits .and .i64 (v : Int) 168) 0 = (szN v : Nat) := by
  have := allB_at sz_all v hv
  have h4 : Nat.beq v 0 = false := by cases v with | zero => omega | succ n => rfl
  rw [h4, Bool.false_or] at this
  exact of_decide_eq_true this
theorem sz_spec (v : Nat) (w : World) (hv : v < 256) : Calls Tryz.prog 138 #[.int .i64 v] w fun e w' => e = .returned (.int .i64 (szN v)) ∧ w' = w := by
  by_cases h : v = 0
  · subst h
    go_enter Tryz.func138, Tryz.ntmps138
    go_wp2
    go_ret
    exact ⟨ret_int (by decide), rfl⟩
  · have h3 : ((v : Int) == 0) = false := by simp; omega
    go_enter Tryz.func138, Tryz.ntmps138
    go_wp2
    go_ret
    exact ⟨ret_int (sz_end v hv h), rfl⟩

def szpN (v : Nat) : Nat := Nat.lor (szN v) (Nat.mul 4 (btN (!prf 8 v)))
theorem szpN_lt (v : Nat) (hv : v < 256) : szpN v < 256 := by
  have h2 : Nat.mul 4 (btN (!prf 8 v)) < 2 ^ 8 := by unfold btN; cases (!prf 8 v) <;> decide
  exact Nat.or_lt_two_pow (n := 8) (szN_lt v hv) h2
theorem szp_yes (v : Nat) (hv : v < 256) (h : prf 8 v = false) : bits .or .i64 ((szN v : Nat) : Int) 4 = (szpN v : Nat) := by
  have hl := szN_lt v hv
  have h2 : bits .or .i64 ((szN v : Nat) : Int) 4 = _ := bOr (szN v) 4 (by omega) (by omega)
  rw [h2]
  unfold szpN
  rw [h]
  rfl
theorem szp_no (v : Nat) (hv : v < 256) (h : prf 8 v = true) : bits .or .i64 ((szN v : Nat) : Int) 0 = (szpN v : Nat) := by
  have hl := szN_lt v hv
  have h2 : bits .or .i64 ((szN v : Nat) : Int) 0 = _ := bOr (szN v) 0 (by omega) (by omega)
  rw [h2]
  unfold szpN
  rw [h]
  rfl
theorem szp_spec (v : Nat) (w : World) (hv : v < 256) : Calls Tryz.prog 117 #[.int .i64 v] w fun e w' => e = .returned (.int .i64 (szpN v)) ∧ w' = w := by
  cases hp : prf 8 v
  · go_enter Tryz.func117, Tryz.ntmps117
    go_wp2_with (first | (go_at_call 138; refine (sz_spec _ _ hv).mono ?_; rintro e w' ⟨rfl, rfl⟩) | (go_at_call 140; refine (par_spec _ _ hv).mono ?_; rintro e w' ⟨rfl, rfl⟩; rw [hp]) | go_in)
    go_ret
    exact ⟨ret_int (szp_yes v hv hp), rfl⟩
  · go_enter Tryz.func117, Tryz.ntmps117
    go_wp2_with (first | (go_at_call 138; refine (sz_spec _ _ hv).mono ?_; rintro e w' ⟨rfl, rfl⟩) | (go_at_call 140; refine (par_spec _ _ hv).mono ?_; rintro e w' ⟨rfl, rfl⟩; rw [hp]) | go_in)
    go_ret
    exact ⟨ret_int (szp_no v hv hp), rfl⟩

theorem bit_spec (b : Bool) (w : World) : Calls Tryz.prog 139 #[.bool b] w fun e w' => e = .returned (.int .i64 (btN b)) ∧ w' = w := by
  cases b
  all_goals
    go_enter Tryz.func139, Tryz.ntmps139
    go_wp2
    go_ret
    exact ⟨rfl, rfl⟩

end Go.Proofs.YtgpmpfikeindfaaGreatDoor
