/- What the program's board answers: a memory of its own, and of each quarter of the addresses the bank that it shows. -/
import Derived.Test.YtgpmpfikeindfaaGreatDoorV21
namespace Go.Proofs.YtgpmpfikeindfaaGreatDoor
open Go.ChangeShapes Go.WideShapes Go.ChangeAt Go.RowKit
set_option linter.unusedVariables false
set_option linter.unusedSimpArgs false

/-- the first k pointers have been laid -/
def pz (Q : Nat → Nat) (k i : Nat) : Value := if i < k then .pointer (some ⟨Q i, 0, none⟩) else .pointer none
def ptrs (Q : Nat → Nat) (k : Nat) : Array Value := #[pz Q k 0, pz Q k 1, pz Q k 2, pz Q k 3]
theorem ptrs_set (Q : Nat → Nat) (k : Nat) (hk : k < 4) : (ptrs Q k).setIfInBounds k (.pointer (some ⟨Q k, 0, none⟩)) = ptrs Q (k + 1) := by
  rcases (by omega : k = 0 ∨ k = 1 ∨ k = 2 ∨ k = 3) with rfl | rfl | rfl | rfl <;> simp [ptrs, pz]
theorem ptrs_at (Q : Nat → Nat) (k : Nat) (hk : k < 4) : (ptrs Q 4)[k]? = some (.pointer (some ⟨Q k, 0, none⟩)) := by
  rcases (by omega : k = 0 ∨ k = 1 ∨ k = 2 ∨ k = 3) with rfl | rfl | rfl | rfl <;> simp [ptrs, pz]
def bdA (a b c d e : Value) (Q : Nat → Nat) (k : Nat) : Array Value := #[a, b, c, d, e, pz Q k 0, pz Q k 1, pz Q k 2, pz Q k 3]
theorem bdA_set (a b c d e : Value) (Q : Nat → Nat) (k : Nat) (hk : k < 4) : (bdA a b c d e Q k).setIfInBounds (5 + k) (.pointer (some ⟨Q k, 0, none⟩)) = bdA a b c d e Q (k + 1) := by
  rcases (by omega : k = 0 ∨ k = 1 ∨ k = 2 ∨ k = 3) with rfl | rfl | rfl | rfl <;> simp [bdA, pz]
/-- the banks of the RAM are being pointed to -/
structure Nb1 (w1 wr : World) (A0 : Array Value) (vr : Value) (V : Nat → Value) (k : Nat) : Prop where
  q0 : Blk wr w1.heap.size A0
  q1 : Blk wr (w1.heap.size + 1) #[vr]
  q2 : Blk wr (w1.heap.size + 1 + 1) (ptrs (fun i => w1.heap.size + 3 + i) k)
  qb : ∀ i, i < k → Blk wr (w1.heap.size + 3 + i) #[V i]
  sz : wr.heap.size = w1.heap.size + 3 + k
  bel : Below w1.heap.size w1 wr
theorem Nb1.start (w1 : World) (A0 : Array Value) (vr : Value) (V : Nat → Value) (t t1 t2 : TypeId) : Nb1 w1 (((w1.alloc (.cells A0 t)).alloc (.cells #[vr] t1)).alloc (.cells #[.pointer none, .pointer none, .pointer none, .pointer none] t2)) A0 vr V 0 := by
  have q1 := Blk.new (w1.alloc (.cells A0 t)) #[vr] t1
  have q2 := Blk.new ((w1.alloc (.cells A0 t)).alloc (.cells #[vr] t1)) #[.pointer none, .pointer none, .pointer none, .pointer none] t2
  simp only [World.size_alloc] at q1 q2
  exact ⟨((Blk.new w1 A0 t).alloc _).alloc _, q1.alloc _, q2, fun i hi => by omega, by simp, (((Below.refl _ _).alloc (Nat.le_refl _) _).alloc (by simp) _).alloc (by simp; omega) _⟩
theorem Nb1.step {w1 wr : World} {A0 : Array Value} {vr : Value} {V : Nat → Value} {k : Nat} (h : Nb1 w1 wr A0 vr V k) (hk : k < 4) (t : TypeId) :
    Nb1 w1 ((wr.setCell ⟨w1.heap.size + 1 + 1, k, none⟩ (.pointer (some ⟨wr.heap.size, 0, none⟩))).alloc (.cells #[V k] t)) A0 vr V (k + 1) := by
  obtain ⟨q0, q1, q2, qb, sz, bel⟩ := h
  have q3 := q2.set k (.pointer (some ⟨wr.heap.size, 0, none⟩))
  rw [sz, ptrs_set (fun i => w1.heap.size + 3 + i) k hk] at q3
  have q4 := Blk.new (wr.setCell ⟨w1.heap.size + 1 + 1, k, none⟩ (.pointer (some ⟨wr.heap.size, 0, none⟩))) #[V k] t
  rw [sizeSet, sz] at q4
  refine ⟨(q0.other (by simp; omega) _).alloc _, (q1.other (by simp) _).alloc _, by rw [sz]; exact q3.alloc _, fun i hi => ?_, by rw [World.size_alloc, sizeSet, sz]; omega, (bel.setCell (p := ⟨w1.heap.size + 1 + 1, k, none⟩) (by simp; omega) _).alloc (by rw [sizeSet]; exact bel.size) _⟩
  by_cases e : i = k
  · subst e
    rw [sz]
    exact q4
  · exact ((qb i (by omega)).other (by simp; omega) _).alloc _
/-- the block that a quarter's bank points to -/
def rowB (r : Nat) (G : Nat → Nat) (pg : Int) (q : Nat) : Nat := if q = 0 then r else if q = 1 then G 1 else if q = 2 then G 2 else G pg.toNat
/-- a board at block B -/
structure Brd (w : World) (lo hi B r s : Nat) (G Q : Nat → Nat) (M : Mem) : Prop where
  lies : Lies w lo hi r s G M
  blk : Blk w B #[.slice (some ⟨r, 0, none⟩) 64 64, .slice (some ⟨s, 0, none⟩) 4 4, .int .i64 M.page, .int .i64 M.screen, .bool M.locked, .pointer (some ⟨Q 0, 0, none⟩), .pointer (some ⟨Q 1, 0, none⟩), .pointer (some ⟨Q 2, 0, none⟩), .pointer (some ⟨Q 3, 0, none⟩)]
  bank : ∀ q, q < 4 → ∃ cap, Blk w (Q q) #[.slice (some ⟨rowB r G M.page q, 0, none⟩) 64 cap]
  ord : hi ≤ B ∧ ∀ q, q < 4 → hi ≤ Q q
theorem Lies.cells {w : World} {lo hi r s : Nat} {G : Nat → Nat} {M : Mem} (h : Lies w lo hi r s G M) (hok : okM M = true) : ∃ C : Nat → Nat, ∀ i, i < 4 → w.cell? ⟨s, i, none⟩ = some (.slice (some ⟨G i, 0, none⟩) 64 (C i)) := by
  obtain ⟨h1, h2, h3, h4, h5⟩ := ok_parts hok
  obtain ⟨cap, c, t, V, hv, k1, k2, k3⟩ := h.ram
  have : ∀ i, ∃ C, i < 4 → w.cell? ⟨s, i, none⟩ = some (.slice (some ⟨G i, 0, none⟩) 64 C) := fun i => by
    by_cases hi : i < 4
    · obtain ⟨C, _, _, hv', _⟩ := k3 i (by omega)
      refine ⟨C, fun _ => ?_⟩
      rw [bytes_len (h5 i (by omega))] at hv'
      rw [← hv']
      simp [World.cell?, k1, k2 i (by omega)]
    · exact ⟨0, fun h => absurd h hi⟩
  exact ⟨fun i => (this i).choose, fun i hi => (this i).choose_spec hi⟩
/-- the quarters are being laid -/
structure Nb2 (w2 wr : World) (B : Nat) (A : Nat → Array Value) (k : Nat) : Prop where
  blk : Blk wr B (A k)
  bel : Below B w2 wr
theorem Nb2.drew {w2 wr : World} {B : Nat} {A : Nat → Array Value} {k : Nat} (h : Nb2 w2 wr B A k) : Nb2 w2 wr.drew B A k := ⟨h.blk, h.bel.drew⟩
theorem Nb2.step {w2 wr : World} {B : Nat} {A : Nat → Array Value} {k i : Nat} {u : Value} (h : Nb2 w2 wr B A k) (e : (A k).setIfInBounds i u = A (k + 1)) : Nb2 w2 (wr.setCell ⟨B, i, none⟩ u) B A (k + 1) :=
  ⟨by rw [← e]; exact h.blk.set i u, h.bel.setCell (p := ⟨B, i, none⟩) (Nat.le_refl _) _⟩
/-- the bank that a quarter points to -/
def quart (n : Nat) (pg : Int) (q : Nat) : Nat := if q = 0 then n + 1 else if q = 1 then n + 3 + 1 else if q = 2 then n + 3 + 2 else n + 3 + pg.toNat
theorem brd_of {w w1 wr wf : World} {r s : Nat} {G C : Nat → Nat} {M : Mem} (lo : Nat) (hok : okM M = true) (hL : Lies w1 lo w1.heap.size r s G M) (hN : Nb1 w1 wr #[.slice (some ⟨r, 0, none⟩) 64 64, .slice (some ⟨s, 0, none⟩) 4 4, .int .i64 M.page, .int .i64 M.screen, .bool M.locked] (.slice (some ⟨r, 0, none⟩) 64 64) (fun i => .slice (some ⟨G i, 0, none⟩) 64 (C i)) 4)
    (h2 : Nb2 wr wf wr.heap.size (bdA (.slice (some ⟨r, 0, none⟩) 64 64) (.slice (some ⟨s, 0, none⟩) 4 4) (.int .i64 M.page) (.int .i64 M.screen) (.bool M.locked) (quart w1.heap.size M.page)) 4) :
    Brd wf lo w1.heap.size wr.heap.size r s G (quart w1.heap.size M.page) M := by
  obtain ⟨k1, k2, k3, k4, k5⟩ := ok_parts hok
  obtain ⟨q0, q1, q2, qb, sz, bel⟩ := hN
  obtain ⟨blk, bel2⟩ := h2
  have hp : M.page.toNat < 4 := by omega
  refine ⟨hL.kept (fun b _ hb => (bel2.block b (by omega)).trans (bel.block b hb)), by simpa [bdA, pz] using blk, fun q hq => ?_, by omega, fun q hq => by unfold quart; split; omega; split; omega; split <;> omega⟩
  rcases (by omega : q = 0 ∨ q = 1 ∨ q = 2 ∨ q = 3) with rfl | rfl | rfl | rfl
  · exact ⟨_, q1.below bel2 (by omega)⟩
  · exact ⟨_, (qb 1 (by omega)).below bel2 (by omega)⟩
  · exact ⟨_, (qb 2 (by omega)).below bel2 (by omega)⟩
  · exact ⟨_, (qb M.page.toNat (by omega)).below bel2 (by omega)⟩
set_option maxRecDepth 100000 in
set_option maxHeartbeats 1000000 in
theorem board_impl (v : Value) (M : Mem) (w : World) (h : MemR w v M) (hok : okM M = true) (hf : Fit M) :
    Calls Tryz.prog 35 #[v] w fun e w' => ∃ hi B r s G Q, e = .returned (.pointer (some ⟨B, 0, none⟩)) ∧ Brd w' w.heap.size hi B r s G Q M ∧ Below w.heap.size w w' := by
  obtain ⟨a1, p1, a2, p2, rfl, r1, r2⟩ := h.form
  have hB : Hid (∀ o, Below w.heap.size w (w.alloc o)) := fun o => (Below.refl _ _).alloc (Nat.le_refl _) _
  have hM : Hid (∀ o, MemR (w.alloc o) (memV (.slice a1 M.rom.length p1) (.slice a2 M.ram.length p2) M.page M.screen M.locked) M) := fun o => h.below (hB.out o)
  have hF : Hid (Fit M) := hf
  clear h hf r1 r2
  go_enter Tryz.func35, Tryz.ntmps35
  go_wp2_with fail
  refine (copy_impl _ M _ (hM.out _) hF.out).mono ?_
  rintro e w1 ⟨r, s, G, rfl, hL, hb1⟩
  obtain ⟨C, hC⟩ := hL.cells hok
  have hl1 : M.rom.length = 64 := bytes_len (ok_parts hok).1
  have hl2 : M.ram.length = 4 := (ok_parts hok).2.1
  rw [hl1, hl2]
  have hpg := (ok_parts hok).2.2.1
  obtain ⟨j, hj⟩ : ∃ j : Nat, M.page = (j : Int) := ⟨M.page.toNat, by omega⟩
  have hL' : Hid (Lies w1 w.heap.size w1.heap.size r s G M) := ⟨hL.rom, hL.ram, by have := hL.br; simp at this; omega, by have := hL.bs; simp at this; omega, fun i hi => by have := hL.bg i hi; simp at this; omega, hL.rs, hL.gn, hL.inj⟩
  have hbw := hid (new_trans (hB.out _) hb1)
  have hsl : s < w1.heap.size := hL.bs.2
  have S0 : Hid (Nb1 w1 (((w1.alloc (.cells #[.slice (some ⟨r, 0, none⟩) 64 64, .slice (some ⟨s, 0, none⟩) 4 4, .int .i64 M.page, .int .i64 M.screen, .bool M.locked] 30)).alloc (.cells #[.slice (some ⟨r, 0, none⟩) 64 64] 106)).alloc (.cells #[.pointer none, .pointer none, .pointer none, .pointer none] 76)) _ _ (fun i => .slice (some ⟨G i, 0, none⟩) 64 (C i)) 0) := Nb1.start w1 _ _ _ _ _ _
  replace hC := hid hC
  replace hj := hid hj
  clear hL hb1 hl1 hl2 hM hpg
  go_wp2_with (go_at_call 56; refine (bankOf_impl _ _ _ _).mono ?_; rintro e w' ⟨rfl, rfl⟩)
  go_loopw [15] (fun i wr => ∃ k : Nat, k ≤ 4 ∧ i = .int .i64 k ∧ Nb1 w1 wr #[.slice (some ⟨r, 0, none⟩) 64 64, .slice (some ⟨s, 0, none⟩) 4 4, .int .i64 M.page, .int .i64 M.screen, .bool M.locked] (.slice (some ⟨r, 0, none⟩) 64 64) (fun i => .slice (some ⟨G i, 0, none⟩) 64 (C i)) k) (fun i _ => 4 - (intOf i).toNat)
  case atStart => exact ⟨0, by omega, rfl, S0.out⟩
  case round =>
    obtain ⟨k, hk, rfl, hS⟩ := hrel
    clear S0
    replace hS := hid hS
    have y0 := hS.out.q0.cell
    have hz0 := hS.out.q0.lt
    have hz2 := hS.out.q2.lt
    by_cases hlt : k < 4
    · have hst := hid (hS.out.step hlt 106)
      have c1 : wr.cell? ⟨s, k, none⟩ = some (.slice (some ⟨G k, 0, none⟩) 64 (C k)) := by rw [hS.out.bel.cell (p := ⟨s, k, none⟩) hsl]; exact hC.out k hlt
      have y2 := hS.out.q2.cell k
      have f2 := hS.out.q2.frozen k
      obtain ⟨x, hx⟩ : ∃ x, (ptrs (fun i => w1.heap.size + 3 + i) k)[k]? = some x := ⟨_, Array.getElem?_eq_getElem (by simp [ptrs]; omega)⟩
      rw [hx] at y2
      clear hS hx
      generalize G k = gk at *
      generalize C k = ck at *
      go_wp2_with (go_at_call 56; refine (bankOf_impl _ _ _ _).mono ?_; rintro e w' ⟨rfl, rfl⟩)
      go_roundw
      case rel => exact ⟨k + 1, by omega, by go_num, hst.out⟩
      case measure => simp [intOf]; omega
    · obtain rfl : k = 4 := by omega
      have hq2 := hid hS.out.q2
      have hSl := hid hS.out
      have hpg := (ok_parts hok).2.2.1
      have hpg0 := hpg.1
      have hpg4 : M.page < 4 := by omega
      have hpn : M.page.toNat < 4 := by omega
      have i0 : ∀ w : World, (Instr.index 103 (.agg #[.int .i64 (-1), .int .i64 1, .int .i64 2, .int .i64 M.page]) (.int .i64 0)).run Tryz.prog w = .ok (.int .i64 (-1)) w := fun _ => by kernel_rfl
      have i1 : ∀ w : World, (Instr.index 103 (.agg #[.int .i64 (-1), .int .i64 1, .int .i64 2, .int .i64 M.page]) (.int .i64 1)).run Tryz.prog w = .ok (.int .i64 1) w := fun _ => by kernel_rfl
      have i2 : ∀ w : World, (Instr.index 103 (.agg #[.int .i64 (-1), .int .i64 1, .int .i64 2, .int .i64 M.page]) (.int .i64 2)).run Tryz.prog w = .ok (.int .i64 2) w := fun _ => by kernel_rfl
      have i3 : ∀ w : World, (Instr.index 103 (.agg #[.int .i64 (-1), .int .i64 1, .int .i64 2, .int .i64 M.page]) (.int .i64 3)).run Tryz.prog w = .ok (.int .i64 M.page) w := fun _ => by kernel_rfl
      go_wp2_with fail
      refine (banks_impl _ _ _ _ _ _ _ _ _ _).mono ?_
      rintro e w3 ⟨rfl, hb3⟩
      have T0 : Hid (Nb2 wr w3 wr.heap.size (bdA (.slice (some ⟨r, 0, none⟩) 64 64) (.slice (some ⟨s, 0, none⟩) 4 4) (.int .i64 M.page) (.int .i64 M.screen) (.bool M.locked) (quart w1.heap.size M.page)) 0) := ⟨(Blk.new wr _ _).below hb3 (by simp), ((Below.refl _ _).alloc (Nat.le_refl _) _).trans (hb3.mono (by simp))⟩
      clear hb3 y0
      obtain ⟨B, hBe⟩ : ∃ B, wr.heap.size = B := ⟨_, rfl⟩
      have hBl : w1.heap.size + 1 + 1 < B := by rw [← hBe]; exact hz2
      rw [hBe] at T0
      replace hBe := hid hBe
      go_wp2
      rw [hBe.out]
      go_loopw [32] (fun i wf => ∃ k : Nat, k ≤ 4 ∧ i = .int .i64 k ∧ Nb2 wr wf B (bdA (.slice (some ⟨r, 0, none⟩) 64 64) (.slice (some ⟨s, 0, none⟩) 4 4) (.int .i64 M.page) (.int .i64 M.screen) (.bool M.locked) (quart w1.heap.size M.page)) k) (fun i _ => 4 - (intOf i).toNat)
      case atStart => exact ⟨0, by omega, rfl, T0.out⟩
      case round =>
        obtain ⟨k, hk, rfl, hT⟩ := hrel
        clear T0
        replace hT := hid hT
        have z2 : Hid (∀ i, i < 4 → wr.cell? ⟨w1.heap.size + 1 + 1, i, none⟩ = some (.pointer (some ⟨w1.heap.size + 3 + i, 0, none⟩))) := fun i hi => by
          rw [hT.out.bel.cell (p := ⟨w1.heap.size + 1 + 1, i, none⟩) hBl, hq2.out.cell i]
          exact ptrs_at _ i hi
        rcases (by omega : k = 0 ∨ k = 1 ∨ k = 2 ∨ k = 3 ∨ k = 4) with rfl | rfl | rfl | rfl | rfl
        · have y := hT.out.blk.cell 5
          have f := hT.out.blk.frozen 5
          have hzz := hT.out.blk.lt
          simp [bdA, pz] at y
          have hst := hid (hT.out.step (i := 5 + 0) (u := .pointer (some ⟨w1.heap.size + 1, 0, none⟩)) (bdA_set _ _ _ _ _ (quart w1.heap.size M.page) 0 (by omega)))
          clear hT z2 i1 i2 i3
          go_wp2
          go_roundw
          case rel => exact ⟨0 + 1, by omega, by go_num, hst.out⟩
          case measure => simp [intOf]
        · have y := hT.out.blk.cell 6
          have f := hT.out.blk.frozen 6
          have hzz := hT.out.blk.lt
          simp [bdA, pz] at y
          have z := z2.out 1 (by omega)
          have hst := hid (hT.out.drew.step (i := 5 + 1) (u := .pointer (some ⟨w1.heap.size + 3 + 1, 0, none⟩)) (bdA_set _ _ _ _ _ (quart w1.heap.size M.page) 1 (by omega)))
          clear hT z2 i0 i2 i3
          go_wp2
          go_region
          go_wp2
          go_roundw
          case rel => exact ⟨1 + 1, by omega, by go_num, hst.out⟩
          case measure => simp [intOf]
        · have y := hT.out.blk.cell 7
          have f := hT.out.blk.frozen 7
          have hzz := hT.out.blk.lt
          simp [bdA, pz] at y
          have z := z2.out 2 (by omega)
          have hst := hid (hT.out.drew.step (i := 5 + 2) (u := .pointer (some ⟨w1.heap.size + 3 + 2, 0, none⟩)) (bdA_set _ _ _ _ _ (quart w1.heap.size M.page) 2 (by omega)))
          clear hT z2 i0 i1 i3
          go_wp2
          go_region
          go_wp2
          go_roundw
          case rel => exact ⟨2 + 1, by omega, by go_num, hst.out⟩
          case measure => simp [intOf]
        · have y := hT.out.blk.cell 8
          have f := hT.out.blk.frozen 8
          have hzz := hT.out.blk.lt
          simp [bdA, pz] at y
          have z := z2.out M.page.toNat hpn
          have hnz : (M.page == -1) = false := by simp; omega
          have hst := hid (hT.out.drew.step (i := 5 + 3) (u := .pointer (some ⟨w1.heap.size + 3 + M.page.toNat, 0, none⟩)) (bdA_set _ _ _ _ _ (quart w1.heap.size M.page) 3 (by omega)))
          clear hT z2 i0 i1 i2
          go_wp2
          go_region
          go_wp2
          go_roundw
          case rel => exact ⟨3 + 1, by omega, by go_num, hst.out⟩
          case measure => simp [intOf]
        · have hE := hid (brd_of (w := w) w.heap.size hok hL'.out hSl.out (by rw [hBe.out]; exact hT.out))
          have hbl := hid (hbw.out.trans ((hSl.out.bel.mono hbw.out.size).trans (hT.out.bel.mono (by have := hbw.out.size; omega))))
          rw [hBe.out] at hE
          clear z2 i0 i1 i2 i3
          go_wp2
          go_ret
          exact ⟨_, _, _, _, _, _, rfl, hE.out, hbl.out⟩
end Go.Proofs.YtgpmpfikeindfaaGreatDoor
