/- What the program reads from a board, and writes to one. -/
import Derived.Test.YtacghkidpbflkabDoorBeq
import Derived.Test.YtacghkidpbflkabDoorQ14
namespace Go.Proofs.YtacghkidpbflkabDoor
open Go.ChangeShapes Go.WideShapes Go.ChangeAt Go.RowKit
set_option linter.unusedVariables false
set_option linter.unusedSimpArgs false

theorem quarter_cases (pg a : Int) (h0 : 0 ≤ a) (h1 : a ≤ 255) : (a < 64 ∧ a / 64 = 0) ∨ (64 ≤ a ∧ ∃ q : Nat, 0 < q ∧ q < 4 ∧ a / 64 = (q : Int) ∧ bankI pg a = if q = 1 then 1 else if q = 2 then 2 else pg) := by
  by_cases h : a < 64
  · exact .inl ⟨h, by omega⟩
  · right
    refine ⟨by omega, (a / 64).toNat, by omega, by omega, by omega, ?_⟩
    unfold bankI
    rw [if_neg h]
    rcases (by omega : a / 64 = 1 ∨ a / 64 = 2 ∨ a / 64 = 3) with e | e | e
    · rw [e, if_pos (by omega), if_pos (by decide)]
    · rw [e, if_neg (by omega), if_pos (by omega), if_neg (by decide), if_pos (by decide)]
    · rw [e, if_neg (by omega), if_neg (by omega), if_neg (by decide), if_neg (by decide)]
/-- what a board shows at an address above the ROM -/
theorem Brd.at {w : World} {lo hi B r s : Nat} {G Q : Nat → Nat} {M : Mem} (h : Brd w lo hi B r s G Q M) (hok : okM M = true) {a : Int} (h0 : 64 ≤ a) (h1 : a ≤ 255) :
    ∃ q j cap : Nat, 0 < q ∧ q < 4 ∧ j < 4 ∧ a / 64 = (q : Int) ∧ bankI M.page a = (j : Int) ∧ w.cell? ⟨B, 5 + q, none⟩ = some (.pointer (some ⟨Q q, 0, none⟩)) ∧ w.cell? ⟨Q q, 0, none⟩ = some (.slice (some ⟨G j, 0, none⟩) 64 cap) := by
  obtain ⟨k1, k2, k3, k4, k5⟩ := ok_parts hok
  rcases quarter_cases M.page a (by omega) h1 with ⟨e, _⟩ | ⟨_, q, q0, q4, hq, hb⟩
  · omega
  obtain ⟨cap, hc⟩ := h.bank q q4
  have hx := h.blk.cell (5 + q)
  have hy := hc.cell 0
  rcases (by omega : q = 1 ∨ q = 2 ∨ q = 3) with rfl | rfl | rfl
  · exact ⟨1, 1, cap, by omega, by omega, by omega, hq, by rw [hb]; rfl, by rw [hx]; rfl, by rw [hy]; rfl⟩
  · exact ⟨2, 2, cap, by omega, by omega, by omega, hq, by rw [hb]; rfl, by rw [hx]; rfl, by rw [hy]; rfl⟩
  · exact ⟨3, M.page.toNat, cap, by omega, by omega, by omega, hq, by rw [hb, if_neg (by decide), if_neg (by decide)]; omega, by rw [hx]; rfl, by rw [hy]; rfl⟩
theorem read_impl (w : World) (lo hi B r s : Nat) (G Q : Nat → Nat) (M : Mem) (a : Int) (h : Brd w lo hi B r s G Q M) (hok : okM M = true) (h0 : 0 ≤ a) (h1 : a ≤ 255) :
    Calls Tryd.prog 97 #[.pointer (some ⟨B, 0, none⟩), .int .i64 a] w fun e w' => e = .returned (.int .i64 (peekI M a)) ∧ w' = w := by
  obtain ⟨k1, k2, k3, k4, k5⟩ := ok_parts hok
  have hl := bytes_len k1
  by_cases hlt : a < 64
  · obtain ⟨cap, hc⟩ := h.bank 0 (by omega)
    have hx := h.blk.cell 5
    have hy := hc.cell 0
    have e : peekI M a = M.rom.getD a.toNat 0 := by unfold peekI; rw [if_pos hlt]
    have hz := h.lies.rom.cell a.toNat (by omega)
    have e1 : a / 64 = 0 := by omega
    have e2 : a % 64 = a := by omega
    rw [e]
    simp [rowB] at hx hy
    clear e h hc k1 k5 hok
    generalize M.rom.getD a.toNat 0 = z at *
    go_enter Tryd.func97, Tryd.ntmps97
    go_wp2
    go_ret
    exact ⟨rfl, rfl⟩
  · obtain ⟨q, j, cap, q0, q4, j4, hq, hb, hx, hy⟩ := h.at hok (a := a) (by omega) h1
    obtain ⟨cp, u, hv, hc, hr, _⟩ := h.lies.ram.at (k := j) (by omega)
    obtain ⟨k, hk⟩ : ∃ k : Nat, a % 64 = (k : Int) := ⟨(a % 64).toNat, by omega⟩
    have hk64 : k < 64 := by omega
    have hrl := bytes_len (k5 j (by omega))
    have hz := hr.cell k (by omega)
    have e : peekI M a = (M.ram.getD j []).getD k 0 := by unfold peekI; rw [if_neg hlt, hb, hk]; rfl
    rw [e]
    clear e h k1 k5 hok hv hc hr hrl
    generalize (M.ram.getD j []).getD k 0 = z at *
    generalize G j = g at *
    generalize Q q = qq at *
    go_enter Tryd.func97, Tryd.ntmps97
    go_wp2
    go_ret
    exact ⟨rfl, rfl⟩
theorem Brd.poke {w : World} {lo hi B r s : Nat} {G Q : Nat → Nat} {M : Mem} (h : Brd w lo hi B r s G Q M) (hok : okM M = true) {a v : Int} {j k : Nat} (h0 : 64 ≤ a) (hj : bankI M.page a = (j : Int)) (hj4 : j < 4) (hk : a % 64 = (k : Int)) :
    Brd (w.setCell ⟨G j, k, none⟩ (.int .i64 v)) lo hi B r s G Q (pokeM M a v) ∧ Below lo w (w.setCell ⟨G j, k, none⟩ (.int .i64 v)) := by
  obtain ⟨k1, k2, k3, k4, k5⟩ := ok_parts hok
  obtain ⟨lies, blk, bank, ord⟩ := h
  obtain ⟨cp, u, hv, hc, hr, hstep⟩ := lies.ram.at (k := j) (by omega)
  have hg := lies.bg j (by omega)
  have hgr : w.grownBy (w.setCell ⟨G j, k, none⟩ (.int .i64 v)) (some (G j)) := ⟨rfl, rfl, rfl, by simp [World.setCell], fun b hb hne => Below.heap_setCell _ _ _ _ (by intro e; exact hne (by rw [e]))⟩
  have e : pokeM M a v = { M with ram := M.ram.set j ((M.ram.getD j []).set k v) } := by unfold pokeM; rw [if_neg (by omega), hj, hk]; rfl
  have hs := hstep _ _ (hr.set k v) hgr (fun i hi => (lies.gn i hi).2) lies.inj
  rw [e]
  refine ⟨⟨⟨lies.rom.kept (Below.heap_setCell _ _ _ _ (by simp; exact fun e => (lies.gn j (by omega)).1 e.symm)), by simpa using hs, lies.br, lies.bs, fun i hi => lies.bg i (by simpa using hi), lies.rs, fun i hi => lies.gn i (by simpa using hi), fun i i' hi hi' => lies.inj i i' (by simpa using hi) (by simpa using hi')⟩, blk.other (by simp; omega) _, fun q hq => ?_, ord⟩, (Below.refl _ _).setCell (p := ⟨G j, k, none⟩) hg.1 _⟩
  obtain ⟨cap, hcc⟩ := bank q hq
  have := ord.2 q hq
  exact ⟨cap, hcc.other (by simp; omega) _⟩
end Go.Proofs.YtacghkidpbflkabDoor
