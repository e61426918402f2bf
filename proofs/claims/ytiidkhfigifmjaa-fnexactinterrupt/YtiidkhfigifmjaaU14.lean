/- What the machine's own calls do: note, read, write, push, pop. -/
import Derived.Test.YtiidkhfigifmjaaCbu
namespace Go.Proofs.Ytiidkhfigifmjaa
open Go.ChangeShapes Go.WideShapes Go.ChangeAt Go.RowKit
set_option linter.unusedVariables false
set_option linter.unusedSimpArgs false

theorem infoCy : (Try.prog.info? 64).map (fun i => (i.zero, i.size, i.bytes)) = some (some (.agg #[.int .i64 0, .int .i64 0, .int .i64 0]), 3, 24) := by kernel_rfl
set_option maxRecDepth 100000 in
theorem note_spec (k a v : Nat) (w : Bs) (W : World) (X : Nat) (x : Mx) (n : Nat) (vr vm cv : Value) (h : NSt w W X x n vr vm cv) (hl : x.cy.length ≤ 1000) :
    Calls Try.prog 63 #[.pointer (some ⟨X, 0, none⟩), .int .i64 (k : Int), .int .i64 (a : Int), .int .i64 (v : Int)] W fun e W' => e = .returned (.tuple #[]) ∧ ∃ cv', NSt w W' X (x.note k a v) n vr vm cv' := by
  obtain ⟨i0, hi0, hz0, hz1, hz2⟩ := info_parts infoCy
  have hst : Hid (∀ w2 g c o, w2.ownsRow w.heap.size 64 3 (.slice (some ⟨g, 0, none⟩) (x.cy.length + 1) c) (x.cy.length + 1) (cyV x.cy ++ [.int .i64 (k : Int), .int .i64 (a : Int), .int .i64 (v : Int)]) → (W.alloc o).grownBy w2 cv.ownBlock → (cv.ownBlock = some g ∨ g = (W.alloc o).heap.size) →
      NSt w (w2.setCell ⟨X, 19, none⟩ (.slice (some ⟨g, 0, none⟩) (x.cy.length + 1) c)) X (x.note k a v) n vr vm (.slice (some ⟨g, 0, none⟩) (x.cy.length + 1) c)) := fun w2 g c o h1 h2 h3 => h.noted h1 h2 h3
  have hq : Hid (∀ w2 o, (W.alloc o).grownBy w2 cv.ownBlock → Blk w2 X (macA x.c vr vm x.m.page x.m.screen x.m.locked cv n)) := fun w2 o hg => (h.blk.alloc o).grown hg (fun e => h.ne e.symm)
  have x0 := h.blk.cell
  have hX := h.blk.lt
  have hown := hid h.own
  have hbase := h.bel.size
  clear h
  generalize x.cy.length = m at *
  go_enter Try.func63, Try.ntmps63
  go_wp2_with (at_builtin; refine wpList_append_lies _ rfl _ _ 32 rfl w.heap.size 64 i0 _ 3 24 Try.underlying32 hi0 hz0 hz1 hz2 rfl (by omega) _ m (cyV x.cy) rfl (hown.out.alloc _) ⟨_, 0, none⟩ 1 1 [.int .i64 (k : Int), .int .i64 (a : Int), .int .i64 (v : Int)] rfl rfl (World.news_of_block (cs := #[.int .i64 (k : Int), .int .i64 (a : Int), .int .i64 (v : Int)]) (t := 64) (fr := (0, 0)) (heap_alloc_new _ _)) (by simp [Value.oneCell']) (by omega) (by unfold maxLen; omega) (by omega) (by simp; omega) _ rfl ?_; intro g2 c2 w2 ho hg hat hlt2; have hS := hid (hst.out _ _ _ _ ho hg hat); have q2 := hq.out _ _ hg; have x2 := q2.cell; have f2 := q2.frozen; have z2 := q2.lt; clear ho hg hat hlt2 hst hq hown x0)
  exact bodyPost_end (v := .tuple #[]) (by simp [results, Try.results63]) rfl ⟨rfl, _, hS.out⟩
end Go.Proofs.Ytiidkhfigifmjaa

/- What the machine's own calls do: read, write, push, pop, get, set. -/
namespace Go.Proofs.Ytiidkhfigifmjaa
open Go.ChangeShapes Go.WideShapes Go.ChangeAt Go.RowKit
set_option linter.unusedVariables false
set_option linter.unusedSimpArgs false

theorem peek_byte {M : Mem} (hk : okM M = true) {a : Nat} (ha : a < 256) : peekI M (a : Int) = (peekN M a : Int) ∧ peekN M a < 256 := by
  obtain ⟨hp1, hp2, hp3, _, hp5⟩ := ok_parts hk
  have hb : 0 ≤ peekI M (a : Int) ∧ peekI M (a : Int) ≤ 255 := by
    unfold peekI
    split
    · have h := bytes_at hp1 (i := ((a : Int)).toNat) (by rw [bytes_len hp1]; omega)
      simpa [inB] using h
    · have hbb := bank_bd hp3 (a := (a : Int)) (by omega)
      have h := bytes_at (hp5 (bankI M.page (a : Int)).toNat (by omega)) (i := ((a : Int) % 64).toNat) (by rw [bytes_len (hp5 (bankI M.page (a : Int)).toNat (by omega))]; omega)
      simpa [inB] using h
  unfold peekN
  omega
set_option maxRecDepth 100000 in
theorem write_spec (a v : Nat) (w : Bs) (W : World) (X : Nat) (x : Mx) (n : Nat) (vr vm cv : Value) (h : NSt w W X x n vr vm cv) (hl : x.cy.length ≤ 1000) (hk : okM x.m = true) (ha : a < 256) :
    Calls Try.prog 81 #[.pointer (some ⟨X, 0, none⟩), .int .i64 (a : Int), .int .i64 (v : Int)] W fun e W' => e = .returned (.tuple #[]) ∧ ∃ vr' vm' cv', NSt w W' X (x.write a v) n vr' vm' cv' := by
  have hX := h.blk.lt
  have hp : ∀ b, vl w.k X cv b = true → b < W.heap.size := fun b hb => by
    rcases vl_cases hb with rfl | hb | ⟨A, hA⟩
    · exact hX
    · exact (h.own.lt b hb).2
    · exact (h.keep b A hA).1.lt
  have hpo := hid (poke0_av (vl w.k X cv) _ x.m (a : Int) (v : Int) W hp h.mem hk (by omega) (by omega))
  have x0 := h.blk.cell
  replace h := hid h
  clear hp
  go_enter Try.func81, Try.ntmps81
  go_wp2_with fail
  refine hpo.out.mono ?_
  rintro e w1 ⟨u, rfl, hu, hb⟩
  obtain ⟨a1, p1, a2, p2, rfl, m1, m2⟩ := hu.form
  have h1 := h.out.below hb
  have h2 := hid (h1.poked hu)
  have x1 := h1.blk.cell
  have f1 := h1.blk.frozen
  have z1 := h1.blk.lt
  clear hb hpo x0 h h1 hu m1 m2
  have hM : ({ x with m := pokeM x.m (a : Int) (v : Int) } : Mx).note 3 a v = x.write a v := rfl
  generalize hMM : pokeM x.m (a : Int) (v : Int) = M' at *
  go_wp2_with fail
  refine (note_spec 3 a v w _ X _ n _ _ cv h2.out hl).mono ?_
  rintro e w2 ⟨rfl, cv', h3⟩
  rw [hM] at h3
  replace h3 := hid h3
  clear h2
  go_wp2
  exact bodyPost_end (v := .tuple #[]) (by simp [results, Try.results81]) rfl ⟨rfl, _, _, cv', h3.out⟩
theorem and255 (s : Nat) (h : s < 600) : bits .and .i64 (s : Int) 255 = ((s % 256 : Nat) : Int) := by
  rw [show (255 : Int) = ((255 : Nat) : Int) from rfl, bAnd s 255 (by omega) (by omega)]
  exact congrArg _ (Nat.and_two_pow_sub_one_eq_mod s 8)
theorem and255m (s : Nat) (h : s < 256) : bits .and .i64 ((s : Int) - 1) 255 = (((s + 255) % 256 : Nat) : Int) := by
  by_cases h0 : s = 0
  · subst h0
    decide
  · have e : (s : Int) - 1 = ((s - 1 : Nat) : Int) := by omega
    rw [e, and255 (s - 1) (by omega)]
    have : (s - 1) % 256 = (s + 255) % 256 := by omega
    rw [this]
set_option maxRecDepth 100000 in
theorem push_spec (v : Nat) (w : Bs) (W : World) (X : Nat) (x : Mx) (n : Nat) (vr vm cv : Value) (h : NSt w W X x n vr vm cv) (hl : x.cy.length ≤ 1000) (hk : okM x.m = true) (hs : x.c.sp < 256) :
    Calls Try.prog 65 #[.pointer (some ⟨X, 0, none⟩), .int .i64 (v : Int)] W fun e W' => e = .returned (.tuple #[]) ∧ ∃ vr' vm' cv', NSt w W' X (x.push v) n vr' vm' cv' := by
  have hp : x.push v = ({ x with c := { x.c with sp := (x.c.sp + 255) % 256 } } : Mx).write ((x.c.sp + 255) % 256) v := rfl
  rw [hp]
  clear hp
  have hq := and255m x.c.sp hs
  have hlt : (x.c.sp + 255) % 256 < 256 := Nat.mod_lt _ (by omega)
  generalize (x.c.sp + 255) % 256 = s at *
  have x0 := h.blk.cell
  have f0 := h.blk.frozen
  have z0 := h.blk.lt
  have h1 := hid (h.put 9 (.int .i64 (s : Int)) { x.c with sp := s } rfl)
  clear h
  go_enter Try.func65, Try.ntmps65
  go_wp2_with fail
  refine (write_spec s v w _ X _ n vr vm cv h1.out hl hk hlt).mono ?_
  rintro e w1 ⟨rfl, vr', vm', cv', h2⟩
  replace h2 := hid h2
  clear h1 x0 f0 z0
  go_wp2
  exact bodyPost_end (v := .tuple #[]) (by simp [results, Try.results65]) rfl ⟨rfl, _, _, _, h2.out⟩
end Go.Proofs.Ytiidkhfigifmjaa
