/- What the program reads from a board, and writes to one. -/
import Derived.Test.YtgpmpfikeindfaaGreatDoorV19
import Derived.Test.YtgpmpfikeindfaaGreatDoorV04
import Derived.Test.YtgpmpfikeindfaaGreatDoorV09
import Derived.RangeFuncBox
namespace Go.Proofs.YtgpmpfikeindfaaGreatDoor
open Go.ChangeShapes Go.WideShapes Go.ChangeAt Go.RowKit
set_option linter.unusedVariables false
set_option linter.unusedSimpArgs false

theorem quarter_cases (pg a : Int) (h0 : 0 ≤ a) (h1 : a ≤ 255) : (a < 64 ∧ a / 64 = 0) ∨ (64 ≤ a ∧ ∃ q : Nat, 0 < q ∧ q < 4 ∧ a / 64 = (q : Int) ∧ bankI pg a = if q = 1 then 1 else if q = 2 then 2 else pg) := by
  by_cases h : a < 64
  · exact .inl ⟨h, by omega⟩
  · right
    refine ⟨by omega, (a / 64).toNat, by omega, by omega, by omega, ?_⟩
    unfold bankI
    rw [if_neg h]
    rcases (by omega : a / 64 = 1 ∨ a / 64 = 2 ∨ a / 64 = 3) with e | e | e
    · rw [e, if_pos (by omega), if_pos (by decide)]
    · rw [e, if_neg (by omega), if_pos (by omega), if_neg (by decide), if_pos (by decide)]
    · rw [e, if_neg (by omega), if_neg (by omega), if_neg (by decide), if_neg (by decide)]
/-- what a board shows at an address above the ROM -/
theorem Brd.at {w : World} {lo hi B r s : Nat} {G Q : Nat → Nat} {M : Mem} (h : Brd w lo hi B r s G Q M) (hok : okM M = true) {a : Int} (h0 : 64 ≤ a) (h1 : a ≤ 255) :
    ∃ q j cap : Nat, 0 < q ∧ q < 4 ∧ j < 4 ∧ a / 64 = (q : Int) ∧ bankI M.page a = (j : Int) ∧ w.cell? ⟨B, 5 + q, none⟩ = some (.pointer (some ⟨Q q, 0, none⟩)) ∧ w.cell? ⟨Q q, 0, none⟩ = some (.slice (some ⟨G j, 0, none⟩) 64 cap) := by
  obtain ⟨k1, k2, k3, k4, k5⟩ := ok_parts hok
  rcases quarter_cases M.page a (by omega) h1 with ⟨e, _⟩ | ⟨_, q, q0, q4, hq, hb⟩
  · omega
  obtain ⟨cap, hc⟩ := h.bank q q4
  have hx := h.blk.cell (5 + q)
  have hy := hc.cell 0
  rcases (by omega : q = 1 ∨ q = 2 ∨ q = 3) with rfl | rfl | rfl
  · exact ⟨1, 1, cap, by omega, by omega, by omega, hq, by rw [hb]; rfl, by rw [hx]; rfl, by rw [hy]; rfl⟩
  · exact ⟨2, 2, cap, by omega, by omega, by omega, hq, by rw [hb]; rfl, by rw [hx]; rfl, by rw [hy]; rfl⟩
  · exact ⟨3, M.page.toNat, cap, by omega, by omega, by omega, hq, by rw [hb, if_neg (by decide), if_neg (by decide)]; omega, by rw [hx]; rfl, by rw [hy]; rfl⟩
theorem read_impl (w : World) (lo hi B r s : Nat) (G Q : Nat → Nat) (M : Mem) (a : Int) (h : Brd w lo hi B r s G Q M) (hok : okM M = true) (h0 : 0 ≤ a) (h1 : a ≤ 255) :
    Calls Tryz.prog 53 #[.pointer (some ⟨B, 0, none⟩), .int .i64 a] w fun e w' => e = .returned (.int .i64 (peekI M a)) ∧ w' = w := by
  obtain ⟨k1, k2, k3, k4, k5⟩ := ok_parts hok
  have hl := bytes_len k1
  by_cases hlt : a < 64
  · obtain ⟨cap, hc⟩ := h.bank 0 (by omega)
    have hx := h.blk.cell 5
    have hy := hc.cell 0
    have e : peekI M a = M.rom.getD a.toNat 0 := by unfold peekI; rw [if_pos hlt]
    have hz := h.lies.rom.cell a.toNat (by omega)
    have e1 : a / 64 = 0 := by omega
    have e2 : a % 64 = a := by omega
    rw [e]
    simp [rowB] at hx hy
    clear e h hc k1 k5 hok
    generalize M.rom.getD a.toNat 0 = z at *
    go_enter Tryz.func53, Tryz.ntmps53
    go_wp2
    go_ret
    exact ⟨rfl, rfl⟩
  · obtain ⟨q, j, cap, q0, q4, j4, hq, hb, hx, hy⟩ := h.at hok (a := a) (by omega) h1
    obtain ⟨cp, u, hv, hc, hr, _⟩ := h.lies.ram.at (k := j) (by omega)
    obtain ⟨k, hk⟩ : ∃ k : Nat, a % 64 = (k : Int) := ⟨(a % 64).toNat, by omega⟩
    have hk64 : k < 64 := by omega
    have hrl := bytes_len (k5 j (by omega))
    have hz := hr.cell k (by omega)
    have e : peekI M a = (M.ram.getD j []).getD k 0 := by unfold peekI; rw [if_neg hlt, hb, hk]; rfl
    rw [e]
    clear e h k1 k5 hok hv hc hr hrl
    generalize (M.ram.getD j []).getD k 0 = z at *
    generalize G j = g at *
    generalize Q q = qq at *
    go_enter Tryz.func53, Tryz.ntmps53
    go_wp2
    go_ret
    exact ⟨rfl, rfl⟩
theorem Brd.poke {w : World} {lo hi B r s : Nat} {G Q : Nat → Nat} {M : Mem} (h : Brd w lo hi B r s G Q M) (hok : okM M = true) {a v : Int} {j k : Nat} (h0 : 64 ≤ a) (hj : bankI M.page a = (j : Int)) (hj4 : j < 4) (hk : a % 64 = (k : Int)) :
    Brd (w.setCell ⟨G j, k, none⟩ (.int .i64 v)) lo hi B r s G Q (pokeM M a v) ∧ Below lo w (w.setCell ⟨G j, k, none⟩ (.int .i64 v)) := by
  obtain ⟨k1, k2, k3, k4, k5⟩ := ok_parts hok
  obtain ⟨lies, blk, bank, ord⟩ := h
  obtain ⟨cp, u, hv, hc, hr, hstep⟩ := lies.ram.at (k := j) (by omega)
  have hg := lies.bg j (by omega)
  have hgr : w.grownBy (w.setCell ⟨G j, k, none⟩ (.int .i64 v)) (some (G j)) := ⟨rfl, rfl, rfl, by simp [World.setCell], fun b hb hne => Below.heap_setCell _ _ _ _ (by intro e; exact hne (by rw [e]))⟩
  have e : pokeM M a v = { M with ram := M.ram.set j ((M.ram.getD j []).set k v) } := by unfold pokeM; rw [if_neg (by omega), hj, hk]; rfl
  have hs := hstep _ _ (hr.set k v) hgr (fun i hi => (lies.gn i hi).2) lies.inj
  rw [e]
  refine ⟨⟨⟨lies.rom.kept (Below.heap_setCell _ _ _ _ (by simp; exact fun e => (lies.gn j (by omega)).1 e.symm)), by simpa using hs, lies.br, lies.bs, fun i hi => lies.bg i (by simpa using hi), lies.rs, fun i hi => lies.gn i (by simpa using hi), fun i i' hi hi' => lies.inj i i' (by simpa using hi) (by simpa using hi')⟩, blk.other (by simp; omega) _, fun q hq => ?_, ord⟩, (Below.refl _ _).setCell (p := ⟨G j, k, none⟩) hg.1 _⟩
  obtain ⟨cap, hcc⟩ := bank q hq
  have := ord.2 q hq
  exact ⟨cap, hcc.other (by simp; omega) _⟩
theorem write_impl (w : World) (lo hi B r s : Nat) (G Q : Nat → Nat) (M : Mem) (a v : Int) (h : Brd w lo hi B r s G Q M) (hok : okM M = true) (h0 : 0 ≤ a) (h1 : a ≤ 255) :
    Calls Tryz.prog 36 #[.pointer (some ⟨B, 0, none⟩), .int .i64 a, .int .i64 v] w fun e w' => e = .returned (.tuple #[]) ∧ Brd w' lo hi B r s G Q (pokeM M a v) ∧ Below lo w w' := by
  obtain ⟨k1, k2, k3, k4, k5⟩ := ok_parts hok
  by_cases hlt : a < 64
  · have e : pokeM M a v = M := by unfold pokeM; rw [if_pos hlt]
    rw [e]
    replace h := hid h
    clear e k5
    go_enter Tryz.func36, Tryz.ntmps36
    go_wp2
    refine bodyPost_ret (v := .tuple #[]) (by simp [results, Tryz.results36, go_sem]) rfl ⟨rfl, h.out, Below.refl _ _⟩
  · obtain ⟨q, j, cap, q0, q4, j4, hq, hb, hx, hy⟩ := h.at hok (a := a) (by omega) h1
    obtain ⟨cp, u, hv, hc, hr, _⟩ := h.lies.ram.at (k := j) (by omega)
    obtain ⟨k, hk⟩ : ∃ k : Nat, a % 64 = (k : Int) := ⟨(a % 64).toNat, by omega⟩
    have hk64 : k < 64 := by omega
    have hrl := bytes_len (k5 j (by omega))
    have hz := hr.cell k (by omega)
    have hfz := hr.frozen k
    have hE := hid (h.poke hok (v := v) (by omega) hb j4 hk)
    clear h k1 k5 hok hv hc hr hrl
    generalize (M.ram.getD j []).getD k 0 = z at *
    obtain ⟨g, hgg⟩ : ∃ g, G j = g := ⟨_, rfl⟩
    obtain ⟨qq, hqq⟩ : ∃ g, Q q = g := ⟨_, rfl⟩
    rw [hgg] at hy hz hfz hE
    rw [hqq] at hx hy
    clear hgg hqq
    go_enter Tryz.func36, Tryz.ntmps36
    go_wp2
    refine bodyPost_end (v := .tuple #[]) (by simp [results, Tryz.results36, go_sem]) rfl ⟨rfl, hE.out⟩
end Go.Proofs.YtgpmpfikeindfaaGreatDoor

/- The program's processor at work, as it lies in a world: its own block, its board, the list of cycles, what is told. -/
namespace Go.Proofs.YtgpmpfikeindfaaGreatDoor
open Go.ChangeShapes Go.WideShapes Go.ChangeAt Go.RowKit
set_option linter.unusedVariables false
set_option linter.unusedSimpArgs false

abbrev proT (c : Cp) (B n : Nat) (T : Value) : Array Value :=
  #[.int .i64 (c.b : Int), .int .i64 (c.c : Int), .int .i64 (c.d : Int), .int .i64 (c.e : Int), .int .i64 (c.h : Int), .int .i64 (c.l : Int), .int .i64 0, .int .i64 (c.a : Int), .int .i64 (c.f : Int), .int .i64 (c.sp : Int), .int .i64 (c.pc : Int), .bool c.iff, .bool c.ei, .bool c.halt,
    .pointer (some ⟨B, 0, none⟩), .int .i64 (n : Int), T]
/-- what tells a cycle: the closure over whether anybody listens, and over yield -/
abbrev telV (I V : Nat) : Value := .func (.func 63) #[] #[.pointer (some ⟨I, 0, none⟩), .pointer (some ⟨V, 0, none⟩)]
abbrev proA (c : Cp) (B n I V : Nat) : Array Value := proT c B n (telV I V)
theorem Blk.same {w w' : World} {b : Nat} {A : Array Value} (h : Blk w b A) (e : w'.heap[b]? = w.heap[b]?) : Blk w' b A := by
  obtain ⟨t, h⟩ := h
  exact ⟨t, e.trans h⟩
/-- what stays the same while the processor works -/
structure Par where
  w : World
  Y : Nat
  B : Nat
  O : Nat
  I : Nat
  V : Nat
  L : Nat
  D : Nat
  lo : Nat
  hi : Nat
  r : Nat
  s : Nat
  n : Nat
  G : Nat → Nat
  Q : Nat → Nat
  R : Loop
/-- the blocks of the board -/
def brdB (lo hi B : Nat) (Q : Nat → Nat) (b : Nat) : Prop := (lo ≤ b ∧ b < hi) ∨ b = B ∨ ∃ q, q < 4 ∧ b = Q q
theorem Brd.kept {w w' : World} {lo hi B r s : Nat} {G Q : Nat → Nat} {M : Mem} (h : Brd w lo hi B r s G Q M) (k : ∀ b, brdB lo hi B Q b → w'.heap[b]? = w.heap[b]?) : Brd w' lo hi B r s G Q M :=
  ⟨h.lies.kept (fun b h1 h2 => k b (.inl ⟨h1, h2⟩)), h.blk.same (k _ (.inr (.inl rfl))), fun q hq => let ⟨cap, hc⟩ := h.bank q hq; ⟨cap, hc.same (k _ (.inr (.inr ⟨q, hq, rfl⟩)))⟩, h.ord⟩
theorem Brd.lt {w : World} {lo hi B r s : Nat} {G Q : Nat → Nat} {M : Mem} (h : Brd w lo hi B r s G Q M) (hh : hi ≤ w.heap.size) {b : Nat} (hb : brdB lo hi B Q b) : b < w.heap.size := by
  rcases hb with h1 | rfl | ⟨q, hq, rfl⟩
  · omega
  · exact h.blk.lt
  · obtain ⟨_, hc⟩ := h.bank q hq
    exact hc.lt
def Par.bs (p : Par) : List Nat := [p.Y, p.O, p.I, p.V, p.L, p.D]
structure Sep (p : Par) : Prop where
  nd : p.bs.Nodup
  nb : ∀ b, b ∈ p.bs → ¬ brdB p.lo p.hi p.B p.Q b
  far : ∀ b, b ∈ p.bs → p.w.heap.size ≤ b
  flo : p.w.heap.size ≤ p.lo
/-- blocks that must stay as they are -/
abbrev Kps := List (Nat × Array Value)
structure CpSt (p : Par) (z : Kps) (W : World) (x : Mx) (cv : Value) : Prop where
  sep : Sep p
  blk : Blk W p.Y (proA x.c p.B p.n p.I p.V)
  brd : Brd W p.lo p.hi p.B p.r p.s p.G p.Q x.m
  hil : p.hi ≤ W.heap.size
  box : Blk W p.O #[cv]
  own : W.ownsRow p.w.heap.size 42 3 cv x.cy.length (cyV x.cy)
  lis : Blk W p.I #[.bool true]
  yld : Blk W p.V #[.func (.yield p.L) #[] #[]]
  loop : W.heap[p.L]? = some (.loop p.R)
  dfr : W.heap[p.D]? = some (.deferred (some []))
  bel : Below p.w.heap.size p.w W
  ne : ∀ g, cv.ownBlock = some g → g ∉ p.bs ∧ ¬ brdB p.lo p.hi p.B p.Q g
  keep : ∀ b A, (b, A) ∈ z → Blk W b A ∧ b ∉ p.bs ∧ ¬ brdB p.lo p.hi p.B p.Q b ∧ cv.ownBlock ≠ some b
theorem Par.mem (p : Par) : p.Y ∈ p.bs ∧ p.O ∈ p.bs ∧ p.I ∈ p.bs ∧ p.V ∈ p.bs ∧ p.L ∈ p.bs ∧ p.D ∈ p.bs := by simp [Par.bs]
theorem Sep.apart {p : Par} (h : Sep p) : (p.Y ≠ p.O ∧ p.Y ≠ p.I ∧ p.Y ≠ p.V ∧ p.Y ≠ p.L ∧ p.Y ≠ p.D) ∧ (p.O ≠ p.I ∧ p.O ≠ p.V ∧ p.O ≠ p.L ∧ p.O ≠ p.D) ∧ (p.I ≠ p.V ∧ p.I ≠ p.L ∧ p.I ≠ p.D) ∧ (p.V ≠ p.L ∧ p.V ≠ p.D) ∧ p.L ≠ p.D := by
  have := h.nd
  simp [Par.bs] at this
  omega
/-- all the blocks that are held: those that a change does not reach stay as they are -/
theorem CpSt.lt {p : Par} {z : Kps} {W : World} {x : Mx} {cv : Value} (h : CpSt p z W x cv) {b : Nat} (hb : b ∈ p.bs ∨ brdB p.lo p.hi p.B p.Q b) : b < W.heap.size := by
  rcases hb with hb | hb
  · simp only [Par.bs, List.mem_cons, List.not_mem_nil, or_false] at hb
    rcases hb with rfl | rfl | rfl | rfl | rfl | rfl
    · exact h.blk.lt
    · exact h.box.lt
    · exact h.lis.lt
    · exact h.yld.lt
    · exact (Array.getElem?_eq_some_iff.1 h.loop).1
    · exact (Array.getElem?_eq_some_iff.1 h.dfr).1
  · exact h.brd.lt h.hil hb
theorem CpSt.below {p : Par} {z : Kps} {W W' : World} {x : Mx} {cv : Value} (h : CpSt p z W x cv) (hb : Below W.heap.size W W') : CpSt p z W' x cv := by
  have k : ∀ b, b ∈ p.bs ∨ brdB p.lo p.hi p.B p.Q b → W'.heap[b]? = W.heap[b]? := fun b hh => hb.block b (h.lt hh)
  obtain ⟨m1, m2, m3, m4, m5, m6⟩ := p.mem
  exact ⟨h.sep, h.blk.same (k _ (.inl m1)), h.brd.kept (fun b hh => k b (.inr hh)), Nat.le_trans h.hil hb.size, h.box.same (k _ (.inl m2)), own3_below h.own hb, h.lis.same (k _ (.inl m3)), h.yld.same (k _ (.inl m4)), (k _ (.inl m5)).trans h.loop, (k _ (.inl m6)).trans h.dfr, h.bel.trans (hb.mono h.bel.size), h.ne, fun b A hm => ⟨(h.keep b A hm).1.below hb (h.keep b A hm).1.lt, (h.keep b A hm).2⟩⟩
theorem CpSt.drew {p : Par} {z : Kps} {W : World} {x : Mx} {cv : Value} (h : CpSt p z W x cv) : CpSt p z W.drew x cv := h.below ⟨rfl, rfl, rfl, Nat.le_refl _, fun _ _ => rfl⟩
/-- a cell of the processor is set -/
theorem CpSt.put {p : Par} {z : Kps} {W : World} {x : Mx} {cv : Value} (h : CpSt p z W x cv) (i : Nat) (u : Value) (c' : Cp) (hc : (proA x.c p.B p.n p.I p.V).setIfInBounds i u = proA c' p.B p.n p.I p.V) : CpSt p z (W.setCell ⟨p.Y, i, none⟩ u) { x with c := c' } cv := by
  have hg := set_grown W p.Y i u
  have k : ∀ b, b ≠ p.Y → (W.setCell ⟨p.Y, i, none⟩ u).heap[b]? = W.heap[b]? := fun b hne => Below.heap_setCell _ _ _ _ hne
  obtain ⟨⟨a1, a2, a3, a4, a5⟩, _⟩ := h.sep.apart
  obtain ⟨m1, m2, m3, m4, m5, m6⟩ := p.mem
  have q := h.blk.set i u
  rw [hc] at q
  exact ⟨h.sep, q, h.brd.kept (fun b hh => k b (fun e => h.sep.nb _ m1 (e ▸ hh))), by rw [sizeSet]; exact h.hil, h.box.same (k _ a1.symm), h.own.kept hg (.inr (fun e => (h.ne _ e).1 m1)), h.lis.same (k _ a2.symm), h.yld.same (k _ a3.symm), (k _ a4.symm).trans h.loop, (k _ a5.symm).trans h.dfr, h.bel.setCell (p := ⟨p.Y, i, none⟩) (h.sep.far _ m1) u, h.ne, fun b A hm => ⟨(h.keep b A hm).1.same (k b (fun e => (h.keep b A hm).2.1 (e ▸ m1))), (h.keep b A hm).2⟩⟩
/-- the memory is another one -/
theorem CpSt.poked {p : Par} {z : Kps} {W W' : World} {x : Mx} {cv : Value} {M' : Mem} (h : CpSt p z W x cv) (hb : Brd W' p.lo p.hi p.B p.r p.s p.G p.Q M') (ht : Touch p.lo p.hi W W') : CpSt p z W' { x with m := M' } cv := by
  have k : ∀ b, b ∈ p.bs → W'.heap[b]? = W.heap[b]? := fun b hm => ht.block b (h.lt (.inl hm)) (by
    have := h.sep.nb b hm
    unfold brdB at this
    simp only [not_or] at this
    omega)
  obtain ⟨m1, m2, m3, m4, m5, m6⟩ := p.mem
  refine ⟨h.sep, h.blk.same (k _ m1), hb, Nat.le_trans h.hil ht.size, h.box.same (k _ m2), ?_, h.lis.same (k _ m3), h.yld.same (k _ m4), (k _ m5).trans h.loop, (k _ m6).trans h.dfr, ht.below h.bel h.sep.flo h.bel.size, h.ne, fun b A hm => ⟨(h.keep b A hm).1.same (ht.block b (h.keep b A hm).1.lt (by
    have := (h.keep b A hm).2.2.1
    unfold brdB at this
    simp only [not_or] at this
    omega)), (h.keep b A hm).2⟩⟩
  rcases h.own.2 with ⟨rfl, e⟩ | ⟨g, cap, cur, rfl, hgb, hc, hr⟩
  · exact ⟨h.own.1, .inl ⟨rfl, e⟩⟩
  · refine ⟨h.own.1, .inr ⟨g, cap, cur, rfl, hgb, ?_, hr⟩⟩
    have hn := (h.ne g rfl).2
    unfold brdB at hn
    simp only [not_or] at hn
    rw [ht.block g (Array.getElem?_eq_some_iff.1 hc).1 (by omega)]
    exact hc
/-- the processor at work on x -/
def At (p : Par) (z : Kps) (W : World) (x : Mx) : Prop := ∃ cv, CpSt p z W x cv
theorem At.cell {p : Par} {z : Kps} {W : World} {x : Mx} (h : At p z W x) (i : Nat) : W.cell? ⟨p.Y, i, none⟩ = (proA x.c p.B p.n p.I p.V)[i]? := let ⟨_, h⟩ := h; h.blk.cell i
theorem At.frozen {p : Par} {z : Kps} {W : World} {x : Mx} (h : At p z W x) (i : Nat) : W.frozen? ⟨p.Y, i, none⟩ = false := let ⟨_, h⟩ := h; h.blk.frozen i
theorem At.lt {p : Par} {z : Kps} {W : World} {x : Mx} (h : At p z W x) : p.Y < W.heap.size := let ⟨_, h⟩ := h; h.blk.lt
theorem At.brd {p : Par} {z : Kps} {W : World} {x : Mx} (h : At p z W x) : Brd W p.lo p.hi p.B p.r p.s p.G p.Q x.m := let ⟨_, h⟩ := h; h.brd
theorem At.below {p : Par} {z : Kps} {W W' : World} {x : Mx} (h : At p z W x) (hb : Below W.heap.size W W') : At p z W' x := let ⟨c, h⟩ := h; ⟨c, h.below hb⟩
theorem At.drew {p : Par} {z : Kps} {W : World} {x : Mx} (h : At p z W x) : At p z W.drew x := let ⟨c, h⟩ := h; ⟨c, h.drew⟩
theorem At.put {p : Par} {z : Kps} {W : World} {x : Mx} (h : At p z W x) (i : Nat) (u : Value) (c' : Cp) (hc : (proA x.c p.B p.n p.I p.V).setIfInBounds i u = proA c' p.B p.n p.I p.V) : At p z (W.setCell ⟨p.Y, i, none⟩ u) { x with c := c' } := let ⟨cv, h⟩ := h; ⟨cv, h.put i u c' hc⟩
theorem At.poked {p : Par} {z : Kps} {W W' : World} {x : Mx} {M' : Mem} (h : At p z W x) (hb : Brd W' p.lo p.hi p.B p.r p.s p.G p.Q M') (ht : Touch p.lo p.hi W W') : At p z W' { x with m := M' } := let ⟨cv, h⟩ := h; ⟨cv, h.poked hb ht⟩
theorem At.old {p : Par} {z : Kps} {W : World} {x : Mx} (h : At p z W x) : Below p.w.heap.size p.w W := let ⟨_, h⟩ := h; h.bel
/-- a thing is made, and stays as it is from then on -/
theorem At.made {p : Par} {z : Kps} {W W' : World} {x : Mx} (h : At p z W x) {A : Array Value} (hb : Below W.heap.size W W') (hq : Blk W' W.heap.size A) : At p ((W.heap.size, A) :: z) W' x := by
  obtain ⟨cv, h⟩ := h
  have h1 := h.below hb
  have hl : ∀ b, b ∈ p.bs ∨ brdB p.lo p.hi p.B p.Q b → b < W.heap.size := fun b hh => h.lt hh
  refine ⟨cv, h1.sep, h1.blk, h1.brd, h1.hil, h1.box, h1.own, h1.lis, h1.yld, h1.loop, h1.dfr, h1.bel, h1.ne, fun b B hm => ?_⟩
  rcases List.mem_cons.1 hm with e | e
  · cases e
    exact ⟨hq, fun hh => absurd (hl _ (.inl hh)) (Nat.lt_irrefl _), fun hh => absurd (hl _ (.inr hh)) (Nat.lt_irrefl _), fun e => absurd (h.own.lt _ e).2 (Nat.lt_irrefl _)⟩
  · exact h1.keep b B e
theorem At.boxed {p : Par} {z : Kps} {W : World} {x : Mx} (h : At p z W x) (A : Array Value) (t : TypeId) : At p ((W.heap.size, A) :: z) (W.alloc (.cells A t)) x :=
  h.made ((Below.refl _ _).alloc (Nat.le_refl _) _) (Blk.new W A t)
theorem At.less {p : Par} {z : Kps} {q : Nat × Array Value} {W : World} {x : Mx} (h : At p (q :: z) W x) : At p z W x := by
  obtain ⟨cv, h⟩ := h
  exact ⟨cv, h.sep, h.blk, h.brd, h.hil, h.box, h.own, h.lis, h.yld, h.loop, h.dfr, h.bel, h.ne, fun b A hm => h.keep b A (List.mem_cons_of_mem _ hm)⟩
theorem At.kept {p : Par} {z : Kps} {b : Nat} {A : Array Value} {W : World} {x : Mx} (h : At p ((b, A) :: z) W x) : Blk W b A := let ⟨_, h⟩ := h; (h.keep b A (List.mem_cons_self ..)).1
/-- a cycle can be told -/
def Tells (p : Par) : Prop := ∀ (z : Kps) (W : World) (x : Mx) (k a v : Nat), At p z W x → x.cy.length ≤ 1000 →
  Calls Tryz.prog 63 #[.int .i64 (k : Int), .int .i64 (a : Int), .int .i64 (v : Int), .pointer (some ⟨p.I, 0, none⟩), .pointer (some ⟨p.V, 0, none⟩)] W fun e W' => e = .returned (.tuple #[]) ∧ At p z W' (x.note k a v)
theorem writeT_impl (w : World) (lo hi B r s : Nat) (G Q : Nat → Nat) (M : Mem) (a v : Int) (h : Brd w lo hi B r s G Q M) (hok : okM M = true) (h0 : 0 ≤ a) (h1 : a ≤ 255) :
    Calls Tryz.prog 36 #[.pointer (some ⟨B, 0, none⟩), .int .i64 a, .int .i64 v] w fun e w' => e = .returned (.tuple #[]) ∧ Brd w' lo hi B r s G Q (pokeM M a v) ∧ Touch lo hi w w' := by
  obtain ⟨k1, k2, k3, k4, k5⟩ := ok_parts hok
  by_cases hlt : a < 64
  · have e : pokeM M a v = M := by unfold pokeM; rw [if_pos hlt]
    rw [e]
    replace h := hid h
    clear e k5
    go_enter Tryz.func36, Tryz.ntmps36
    go_wp2
    refine bodyPost_ret (v := .tuple #[]) (by simp [results, Tryz.results36, go_sem]) rfl ⟨rfl, h.out, Touch.refl _ _ _⟩
  · obtain ⟨q, j, cap, q0, q4, j4, hq, hb, hx, hy⟩ := h.at hok (a := a) (by omega) h1
    obtain ⟨cp, u, hv, hc, hr, _⟩ := h.lies.ram.at (k := j) (by omega)
    obtain ⟨k, hk⟩ : ∃ k : Nat, a % 64 = (k : Int) := ⟨(a % 64).toNat, by omega⟩
    have hk64 : k < 64 := by omega
    have hrl := bytes_len (k5 j (by omega))
    have hz := hr.cell k (by omega)
    have hfz := hr.frozen k
    have hbg := h.lies.bg j (by omega)
    have hE := hid (h.poke hok (v := v) (by omega) hb j4 hk).1
    have hT : Hid (Touch lo hi w (w.setCell ⟨G j, k, none⟩ (.int .i64 v))) := Touch.of_grown (set_grown w (G j) k (.int .i64 v)) hbg.1 hbg.2
    clear h k1 k5 hok hv hc hr hrl
    generalize (M.ram.getD j []).getD k 0 = z at *
    obtain ⟨g, hgg⟩ : ∃ g, G j = g := ⟨_, rfl⟩
    obtain ⟨qq, hqq⟩ : ∃ g, Q q = g := ⟨_, rfl⟩
    rw [hgg] at hy hz hfz hE hT
    rw [hqq] at hx hy
    clear hgg hqq hbg
    go_enter Tryz.func36, Tryz.ntmps36
    go_wp2
    refine bodyPost_end (v := .tuple #[]) (by simp [results, Tryz.results36, go_sem]) rfl ⟨rfl, hE.out, hT.out⟩
end Go.Proofs.YtgpmpfikeindfaaGreatDoor
