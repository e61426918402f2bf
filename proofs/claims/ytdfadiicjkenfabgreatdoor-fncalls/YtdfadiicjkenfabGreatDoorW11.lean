/- Eight registers that are the same are told the same. -/
import Derived.Test.YtdfadiicjkenfabGreatDoorCbw
import Derived.ChangeKeysEq
import Derived.Test.YtdfadiicjkenfabGreatDoorW01
import Derived.Deep.Cut
namespace Go.Proofs.YtdfadiicjkenfabGreatDoor
open Go.ChangeShapes Go.WideShapes Go.ChangeAt Go.RowKit
set_option linter.unusedVariables false
set_option linter.unusedSimpArgs false

theorem part_int {xs : Array Value} {i : Nat} {v : Value} (h : xs[i]? = some v) (w : World) : (part 3 xs i).run Tryz.prog w = .ok v w := by
  have hu := Tryz.underlying3
  simp [part, isAgg, go_sem, hu, h]
theorem eq_int1 (d : Nat) (z : Int) (w : World) : (Op.equalIn (d + 1) 3 (.int .i64 z) (.int .i64 z)).run Tryz.prog w = .ok true w := by
  have hu := Tryz.underlying3
  simp [Op.equalIn, go_sem, hu]
theorem items_self (d : Nat) (xs : Array Value) (w : World) : ∀ is : List Nat, (∀ i ∈ is, ∃ z, xs[i * 1]? = some (.int .i64 z)) → (Op.eqItems (d + 1) 3 1 xs xs is).run Tryz.prog w = .ok true w := by
  intro is
  induction is with
  | nil => intro _; rfl
  | cons i t ih =>
    intro h
    obtain ⟨z, hz⟩ := h i (by simp)
    simp only [Op.eqItems, Sem.run_bind, part_int hz, Result.andThen_ok, eq_int1, Bool.not_true, Bool.false_eq_true, if_false]
    exact ih (fun j hj => h j (by simp [hj]))
theorem eq8 (d : Nat) (x0 x1 x2 x3 x4 x5 x6 x7 : Int) (w : World) : Sem.run Tryz.prog (Op.equalIn (d + 1 + 1) 23 (.agg #[.int .i64 x0, .int .i64 x1, .int .i64 x2, .int .i64 x3, .int .i64 x4, .int .i64 x5, .int .i64 x6, .int .i64 x7]) (.agg #[.int .i64 x0, .int .i64 x1, .int .i64 x2, .int .i64 x3, .int .i64 x4, .int .i64 x5, .int .i64 x6, .int .i64 x7])) w = .ok true w := by
  obtain ⟨i, hi⟩ : ∃ i, Tryz.prog.info? 3 = some i := Option.isSome_iff_exists.1 (by kernel_rfl)
  have c1 : Tryz.prog.cellsOf 3 = 1 := by kernel_rfl
  rw [run_equalIn_array (w := w) (d + 1) _ _ Tryz.underlying23 hi, c1]
  refine items_self d _ w _ (fun i hi => ?_)
  have hi8 : i < 8 := List.mem_range.1 hi
  rcases (by omega : i = 0 ∨ i = 1 ∨ i = 2 ∨ i = 3 ∨ i = 4 ∨ i = 5 ∨ i = 6 ∨ i = 7) with rfl | rfl | rfl | rfl | rfl | rfl | rfl | rfl <;> exact ⟨_, rfl⟩
theorem eq8a (x0 x1 x2 x3 x4 x5 x6 x7 : Int) (w : World) : Sem.run Tryz.prog (Op.equalIn 9999 23 (.agg #[.int .i64 x0, .int .i64 x1, .int .i64 x2, .int .i64 x3, .int .i64 x4, .int .i64 x5, .int .i64 x6, .int .i64 x7]) (.agg #[.int .i64 x0, .int .i64 x1, .int .i64 x2, .int .i64 x3, .int .i64 x4, .int .i64 x5, .int .i64 x6, .int .i64 x7])) w = .ok true w := eq8 9997 _ _ _ _ _ _ _ _ w
theorem eq8b (x0 x1 x2 x3 x4 x5 x6 x7 : Int) (w : World) : Sem.run Tryz.prog (Op.equalIn 10000 23 (.agg #[.int .i64 x0, .int .i64 x1, .int .i64 x2, .int .i64 x3, .int .i64 x4, .int .i64 x5, .int .i64 x6, .int .i64 x7]) (.agg #[.int .i64 x0, .int .i64 x1, .int .i64 x2, .int .i64 x3, .int .i64 x4, .int .i64 x5, .int .i64 x6, .int .i64 x7])) w = .ok true w := eq8 9998 _ _ _ _ _ _ _ _ w
end Go.Proofs.YtdfadiicjkenfabGreatDoor

/- What the specification says of a processor that is right. -/
namespace Go.Proofs.YtdfadiicjkenfabGreatDoor
open Go.ChangeShapes Go.WideShapes Go.ChangeAt Go.RowKit
set_option linter.unusedVariables false
set_option linter.unusedSimpArgs false

/-- a processor as it comes in: any numbers -/
structure Cu where
  r0 : Int
  r1 : Int
  r2 : Int
  r3 : Int
  r4 : Int
  r5 : Int
  r6 : Int
  r7 : Int
  f : Int
  sp : Int
  pc : Int
  iff : Bool
  ei : Bool
  halt : Bool
abbrev cuA (c : Cu) : Array Value := #[.int .i64 c.r0, .int .i64 c.r1, .int .i64 c.r2, .int .i64 c.r3, .int .i64 c.r4, .int .i64 c.r5, .int .i64 c.r6, .int .i64 c.r7, .int .i64 c.f, .int .i64 c.sp, .int .i64 c.pc, .bool c.iff, .bool c.ei, .bool c.halt]
abbrev cuV (c : Cu) : Value := .agg (cuA c)
def Cu.reg (c : Cu) : Nat → Int
  | 0 => c.r0
  | 1 => c.r1
  | 2 => c.r2
  | 3 => c.r3
  | 4 => c.r4
  | 5 => c.r5
  | 6 => c.r6
  | _ => c.r7
def regsB (c : Cu) : Bool := (List.range 8).all (fun i => inB (c.reg i) 0 255)
def okC (c : Cu) : Bool := regsB c && decide (c.r6 = 0) && inB c.f 0 255 && inB c.sp 0 255 && inB c.pc 0 255 && (!c.ei || c.iff)
theorem regs_no {c : Cu} {k : Nat} (hk : k < 8) (h : inB (c.reg k) 0 255 = false) : okC c = false := by
  have : regsB c = false := by
    unfold regsB
    rw [List.all_eq_false]
    exact ⟨k, List.mem_range.2 hk, by simp [h]⟩
  simp [okC, this]
theorem regs_all {c : Cu} (h : ∀ i, i < 8 → inB (c.reg i) 0 255 = true) : regsB c = true := by
  unfold regsB
  rw [List.all_eq_true]
  exact fun i hi => h i (List.mem_range.1 hi)
set_option maxRecDepth 100000 in
set_option maxHeartbeats 1000000 in
theorem cpuok_spec (c : Cu) (w : World) : Calls Tryz.prog 50 #[cuV c] w fun e w' => e = .returned (.bool (okC c)) ∧ Below w.heap.size w w' := by
  have hno : Hid (∀ k, k < 8 → inB (c.reg k) 0 255 = false → okC c = false) := fun k hk => regs_no hk
  have hall : Hid ((∀ i, i < 8 → inB (c.reg i) 0 255 = true) → okC c = (decide (c.r6 = 0) && inB c.f 0 255 && inB c.sp 0 255 && inB c.pc 0 255 && (!c.ei || c.iff))) := fun h => by unfold okC; rw [regs_all h, Bool.true_and]
  have hB := hid ((Below.refl w.heap.size w).alloc (Nat.le_refl _) (.cells (cuA c) 25))
  have q1 := (Blk.new w (cuA c) 25).cell
  obtain ⟨Q, hQ⟩ : ∃ Q, okC c = Q := ⟨_, rfl⟩
  rw [hQ] at hno hall ⊢
  clear hQ
  go_enter Tryz.func50, Tryz.ntmps50
  go_upto_region 1 with fail
  obtain ⟨V, hV⟩ : ∃ V, w.alloc (Obj.cells (cuA c) 25) = V := ⟨_, rfl⟩
  rw [hV] at hB q1 ⊢
  clear hV
  go_wp2
  go_loop [3] (fun i => ∃ k : Nat, k ≤ 8 ∧ i = .int .i64 k ∧ ∀ j, j < k → inB (c.reg j) 0 255 = true) (fun i => 8 - (intOf i).toNat)
  case atStart => exact ⟨0, by omega, rfl, fun j hj => by omega⟩
  case round =>
    obtain ⟨k, hk, rfl, hj⟩ := hrel
    by_cases hlt : k < 8
    · have hk8 : k = 0 ∨ k = 1 ∨ k = 2 ∨ k = 3 ∨ k = 4 ∨ k = 5 ∨ k = 6 ∨ k = 7 := by omega
      cases hb : inB (c.reg k) 0 255
      · have hE := hid (hno.out k hlt hb)
        clear hj hno hall hk hlt
        rcases hk8 with rfl | rfl | rfl | rfl | rfl | rfl | rfl | rfl
        all_goals
          simp only [Cu.reg] at hb
          go_wp2_with (go_at_call 26; refine (byteM_spec _ _).mono ?_; rintro e w' ⟨rfl, rfl⟩; rw [hb])
          go_ret
          exact ⟨ret_bool hE.out.symm, hB.out⟩
      · have hj2 : Hid (∀ j, j < k + 1 → inB (c.reg j) 0 255 = true) := fun j hj1 => by
          by_cases e : j = k
          · rw [e]; exact hb
          · exact hj j (by omega)
        clear hj hno hall hk hlt
        rcases hk8 with rfl | rfl | rfl | rfl | rfl | rfl | rfl | rfl
        all_goals
          simp only [Cu.reg] at hb
          go_wp2_with (go_at_call 26; refine (byteM_spec _ _).mono ?_; rintro e w' ⟨rfl, rfl⟩; rw [hb])
          go_round
          case rel => exact ⟨_, by omega, by go_num, hj2.out⟩
          case measure => simp [intOf]
    · obtain rfl : k = 8 := by omega
      have hE := hall.out hj
      clear hj hno hall hk hlt
      by_cases h6 : c.r6 = 0
      · have h62 : (c.r6 == 0) = true := by simp [h6]
        rw [decide_eq_true h6, Bool.true_and] at hE
        clear h6
        cases h1 : inB c.f 0 255
        · rw [h1] at hE
          replace hE := hid hE
          go_wp2_with (go_at_call 26; refine (byteM_spec _ _).mono ?_; rintro e w' ⟨rfl, rfl⟩; rw [h1])
          go_ret
          exact ⟨ret_bool (by rw [hE.out]; rfl), hB.out⟩
        · cases h2 : inB c.sp 0 255
          · rw [h1, h2] at hE
            replace hE := hid hE
            go_wp2_with (go_at_call 26; refine (byteM_spec _ _).mono ?_; rintro e w' ⟨rfl, rfl⟩; first | rw [h1] | rw [h2])
            go_ret
            exact ⟨ret_bool (by rw [hE.out]; rfl), hB.out⟩
          · cases h3 : inB c.pc 0 255
            · rw [h1, h2, h3] at hE
              replace hE := hid hE
              go_wp2_with (go_at_call 26; refine (byteM_spec _ _).mono ?_; rintro e w' ⟨rfl, rfl⟩; first | rw [h1] | rw [h2] | rw [h3])
              go_ret
              exact ⟨ret_bool (by rw [hE.out]; rfl), hB.out⟩
            · rw [h1, h2, h3] at hE
              cases h4 : c.ei
              · rw [h4] at hE
                replace hE := hid hE
                go_wp2_with (go_at_call 26; refine (byteM_spec _ _).mono ?_; rintro e w' ⟨rfl, rfl⟩; first | rw [h1] | rw [h2] | rw [h3])
                go_ret
                exact ⟨ret_bool (by rw [hE.out]; rfl), hB.out⟩
              · rw [h4] at hE
                replace hE := hid hE
                go_wp2_with (go_at_call 26; refine (byteM_spec _ _).mono ?_; rintro e w' ⟨rfl, rfl⟩; first | rw [h1] | rw [h2] | rw [h3])
                go_ret
                exact ⟨ret_bool (by rw [hE.out]; simp), hB.out⟩
      · have h62 : (c.r6 == 0) = false := by simp [h6]
        rw [decide_eq_false h6, Bool.false_and, Bool.false_and, Bool.false_and, Bool.false_and] at hE
        replace hE := hid hE
        clear h6
        go_wp2
        go_ret
        exact ⟨ret_bool (by rw [hE.out]), hB.out⟩
end Go.Proofs.YtdfadiicjkenfabGreatDoor

/- What the machine's own calls do: note, read, write, push, pop. -/
namespace Go.Proofs.YtdfadiicjkenfabGreatDoor
open Go.ChangeShapes Go.WideShapes Go.ChangeAt Go.RowKit
set_option linter.unusedVariables false
set_option linter.unusedSimpArgs false

theorem infoCy : (Tryz.prog.info? 42).map (fun i => (i.zero, i.size, i.bytes)) = some (some (.agg #[.int .i64 0, .int .i64 0, .int .i64 0]), 3, 24) := by kernel_rfl
set_option maxRecDepth 100000 in
theorem note_spec (k a v : Nat) (w : Bs) (W : World) (X : Nat) (x : Mx) (n : Nat) (vr vm cv : Value) (h : NSt w W X x n vr vm cv) (hl : x.cy.length ≤ 1000) :
    Calls Tryz.prog 53 #[.pointer (some ⟨X, 0, none⟩), .int .i64 (k : Int), .int .i64 (a : Int), .int .i64 (v : Int)] W fun e W' => e = .returned (.tuple #[]) ∧ ∃ cv', NSt w W' X (x.note k a v) n vr vm cv' := by
  obtain ⟨i0, hi0, hz0, hz1, hz2⟩ := info_parts infoCy
  have hst : Hid (∀ w2 g c o, w2.ownsRow w.heap.size 42 3 (.slice (some ⟨g, 0, none⟩) (x.cy.length + 1) c) (x.cy.length + 1) (cyV x.cy ++ [.int .i64 (k : Int), .int .i64 (a : Int), .int .i64 (v : Int)]) → (W.alloc o).grownBy w2 cv.ownBlock → (cv.ownBlock = some g ∨ g = (W.alloc o).heap.size) →
      NSt w (w2.setCell ⟨X, 19, none⟩ (.slice (some ⟨g, 0, none⟩) (x.cy.length + 1) c)) X (x.note k a v) n vr vm (.slice (some ⟨g, 0, none⟩) (x.cy.length + 1) c)) := fun w2 g c o h1 h2 h3 => h.noted h1 h2 h3
  have hq : Hid (∀ w2 o, (W.alloc o).grownBy w2 cv.ownBlock → Blk w2 X (macA x.c vr vm x.m.page x.m.screen x.m.locked cv n)) := fun w2 o hg => (h.blk.alloc o).grown hg (fun e => h.ne e.symm)
  have x0 := h.blk.cell
  have hX := h.blk.lt
  have hown := hid h.own
  have hbase := h.bel.size
  clear h
  generalize x.cy.length = m at *
  go_enter Tryz.func53, Tryz.ntmps53
  go_wp2_with (at_builtin; refine wpList_append_lies _ rfl _ _ 33 rfl w.heap.size 42 i0 _ 3 24 Tryz.underlying33 hi0 hz0 hz1 hz2 rfl (by omega) _ m (cyV x.cy) rfl (hown.out.alloc _) ⟨_, 0, none⟩ 1 1 [.int .i64 (k : Int), .int .i64 (a : Int), .int .i64 (v : Int)] rfl rfl (World.news_of_block (cs := #[.int .i64 (k : Int), .int .i64 (a : Int), .int .i64 (v : Int)]) (t := 42) (fr := (0, 0)) (heap_alloc_new _ _)) (by simp [Value.oneCell']) (by omega) (by unfold maxLen; omega) (by omega) (by simp; omega) _ rfl ?_; intro g2 c2 w2 ho hg hat hlt2; have hS := hid (hst.out _ _ _ _ ho hg hat); have q2 := hq.out _ _ hg; have x2 := q2.cell; have f2 := q2.frozen; have z2 := q2.lt; clear ho hg hat hlt2 hst hq hown x0)
  exact bodyPost_end (v := .tuple #[]) (by simp [results, Tryz.results53]) rfl ⟨rfl, _, hS.out⟩
end Go.Proofs.YtdfadiicjkenfabGreatDoor

/- What the machine's own calls do: read, write, push, pop, get, set. -/
namespace Go.Proofs.YtdfadiicjkenfabGreatDoor
open Go.ChangeShapes Go.WideShapes Go.ChangeAt Go.RowKit
set_option linter.unusedVariables false
set_option linter.unusedSimpArgs false

theorem peek_byte {M : Mem} (hk : okM M = true) {a : Nat} (ha : a < 256) : peekI M (a : Int) = (peekN M a : Int) ∧ peekN M a < 256 := by
  obtain ⟨hp1, hp2, hp3, _, hp5⟩ := ok_parts hk
  have hb : 0 ≤ peekI M (a : Int) ∧ peekI M (a : Int) ≤ 255 := by
    unfold peekI
    split
    · have h := bytes_at hp1 (i := ((a : Int)).toNat) (by rw [bytes_len hp1]; omega)
      simpa [inB] using h
    · have hbb := bank_bd hp3 (a := (a : Int)) (by omega)
      have h := bytes_at (hp5 (bankI M.page (a : Int)).toNat (by omega)) (i := ((a : Int) % 64).toNat) (by rw [bytes_len (hp5 (bankI M.page (a : Int)).toNat (by omega))]; omega)
      simpa [inB] using h
  unfold peekN
  omega
set_option maxRecDepth 100000 in
theorem read_spec (a : Nat) (w : Bs) (W : World) (X : Nat) (x : Mx) (n : Nat) (vr vm cv : Value) (h : NSt w W X x n vr vm cv) (hl : x.cy.length ≤ 1000) (hk : okM x.m = true) (ha : a < 256) :
    Calls Tryz.prog 55 #[.pointer (some ⟨X, 0, none⟩), .int .i64 (a : Int)] W fun e W' => e = .returned (.int .i64 (peekN x.m a : Int)) ∧ ∃ cv', NSt w W' X (x.read a) n vr vm cv' := by
  have hp := (peek_byte hk ha).1
  have hm := hid h.mem.unveil
  have hr : x.read a = x.note 2 a (peekN x.m a) := rfl
  rw [hr]
  obtain ⟨v, hv⟩ : ∃ v, peekN x.m a = v := ⟨_, rfl⟩
  rw [hv] at hp ⊢
  clear hr hv
  have x0 := h.blk.cell
  replace h := hid h
  go_enter Tryz.func55, Tryz.ntmps55
  go_wp2_with fail
  refine (peek0_spec _ x.m (a : Int) _ hm.out hk (by omega) (by omega)).mono ?_
  rintro e w1 ⟨rfl, hb⟩
  rw [hp]
  have h1 := hid (h.out.below hb)
  clear hb hm x0 h hp
  go_wp2_with fail
  refine (note_spec 2 a v w _ X x n vr vm cv h1.out hl).mono ?_
  rintro e w2 ⟨rfl, cv', h2⟩
  replace h2 := hid h2
  clear h1
  go_wp2
  go_ret
  exact ⟨rfl, cv', h2.out⟩
set_option maxRecDepth 100000 in
theorem write_spec (a v : Nat) (w : Bs) (W : World) (X : Nat) (x : Mx) (n : Nat) (vr vm cv : Value) (h : NSt w W X x n vr vm cv) (hl : x.cy.length ≤ 1000) (hk : okM x.m = true) (ha : a < 256) :
    Calls Tryz.prog 113 #[.pointer (some ⟨X, 0, none⟩), .int .i64 (a : Int), .int .i64 (v : Int)] W fun e W' => e = .returned (.tuple #[]) ∧ ∃ vr' vm' cv', NSt w W' X (x.write a v) n vr' vm' cv' := by
  have hX := h.blk.lt
  have hp : ∀ b, vl w.k X cv b = true → b < W.heap.size := fun b hb => by
    rcases vl_cases hb with rfl | hb | ⟨A, hA⟩
    · exact hX
    · exact (h.own.lt b hb).2
    · exact (h.keep b A hA).1.lt
  have hpo := hid (poke0_av (vl w.k X cv) _ x.m (a : Int) (v : Int) W hp h.mem hk (by omega) (by omega))
  have x0 := h.blk.cell
  replace h := hid h
  clear hp
  go_enter Tryz.func113, Tryz.ntmps113
  go_wp2_with fail
  refine hpo.out.mono ?_
  rintro e w1 ⟨u, rfl, hu, hb⟩
  obtain ⟨a1, p1, a2, p2, rfl, m1, m2⟩ := hu.form
  have h1 := h.out.below hb
  have h2 := hid (h1.poked hu)
  have x1 := h1.blk.cell
  have f1 := h1.blk.frozen
  have z1 := h1.blk.lt
  clear hb hpo x0 h h1 hu m1 m2
  have hM : ({ x with m := pokeM x.m (a : Int) (v : Int) } : Mx).note 3 a v = x.write a v := rfl
  generalize hMM : pokeM x.m (a : Int) (v : Int) = M' at *
  go_wp2_with fail
  refine (note_spec 3 a v w _ X _ n _ _ cv h2.out hl).mono ?_
  rintro e w2 ⟨rfl, cv', h3⟩
  rw [hM] at h3
  replace h3 := hid h3
  clear h2
  go_wp2
  exact bodyPost_end (v := .tuple #[]) (by simp [results, Tryz.results113]) rfl ⟨rfl, _, _, cv', h3.out⟩
theorem and255 (s : Nat) (h : s < 600) : bits .and .i64 (s : Int) 255 = ((s % 256 : Nat) : Int) := by
  rw [show (255 : Int) = ((255 : Nat) : Int) from rfl, bAnd s 255 (by omega) (by omega)]
  exact congrArg _ (Nat.and_two_pow_sub_one_eq_mod s 8)
theorem and255m (s : Nat) (h : s < 256) : bits .and .i64 ((s : Int) - 1) 255 = (((s + 255) % 256 : Nat) : Int) := by
  by_cases h0 : s = 0
  · subst h0
    decide
  · have e : (s : Int) - 1 = ((s - 1 : Nat) : Int) := by omega
    rw [e, and255 (s - 1) (by omega)]
    have : (s - 1) % 256 = (s + 255) % 256 := by omega
    rw [this]
set_option maxRecDepth 100000 in
theorem push_spec (v : Nat) (w : Bs) (W : World) (X : Nat) (x : Mx) (n : Nat) (vr vm cv : Value) (h : NSt w W X x n vr vm cv) (hl : x.cy.length ≤ 1000) (hk : okM x.m = true) (hs : x.c.sp < 256) :
    Calls Tryz.prog 121 #[.pointer (some ⟨X, 0, none⟩), .int .i64 (v : Int)] W fun e W' => e = .returned (.tuple #[]) ∧ ∃ vr' vm' cv', NSt w W' X (x.push v) n vr' vm' cv' := by
  have hp : x.push v = ({ x with c := { x.c with sp := (x.c.sp + 255) % 256 } } : Mx).write ((x.c.sp + 255) % 256) v := rfl
  rw [hp]
  clear hp
  have hq := and255m x.c.sp hs
  have hlt : (x.c.sp + 255) % 256 < 256 := Nat.mod_lt _ (by omega)
  generalize (x.c.sp + 255) % 256 = s at *
  have x0 := h.blk.cell
  have f0 := h.blk.frozen
  have z0 := h.blk.lt
  have h1 := hid (h.put 9 (.int .i64 (s : Int)) { x.c with sp := s } rfl)
  clear h
  go_enter Tryz.func121, Tryz.ntmps121
  go_wp2_with fail
  refine (write_spec s v w _ X _ n vr vm cv h1.out hl hk hlt).mono ?_
  rintro e w1 ⟨rfl, vr', vm', cv', h2⟩
  replace h2 := hid h2
  clear h1 x0 f0 z0
  go_wp2
  exact bodyPost_end (v := .tuple #[]) (by simp [results, Tryz.results121]) rfl ⟨rfl, _, _, _, h2.out⟩
set_option maxRecDepth 100000 in
theorem pop_spec (w : Bs) (W : World) (X : Nat) (x : Mx) (n : Nat) (vr vm cv : Value) (h : NSt w W X x n vr vm cv) (hl : x.cy.length ≤ 1000) (hk : okM x.m = true) (hs : x.c.sp < 256) :
    Calls Tryz.prog 122 #[.pointer (some ⟨X, 0, none⟩)] W fun e W' => e = .returned (.int .i64 (x.popV : Int)) ∧ ∃ cv', NSt w W' X x.popX n vr vm cv' := by
  have hp : x.popX = { x.read x.c.sp with c := { (x.read x.c.sp).c with sp := (x.c.sp + 1) % 256 } } := rfl
  have hv : x.popV = peekN x.m x.c.sp := rfl
  rw [hp, hv]
  clear hp hv
  have hq := and255 (x.c.sp + 1) (by omega)
  have hlt : (x.c.sp + 1) % 256 < 256 := Nat.mod_lt _ (by omega)
  have hc : (x.read x.c.sp).c = x.c := rfl
  have x0 := h.blk.cell
  have hr := hid (read_spec x.c.sp w W X x n vr vm cv h hl hk hs)
  clear h
  obtain ⟨v, hv2⟩ : ∃ v, peekN x.m x.c.sp = v := ⟨_, rfl⟩
  rw [hv2] at hr ⊢
  clear hv2
  obtain ⟨s', hs'⟩ : ∃ s', (x.c.sp + 1) % 256 = s' := ⟨_, rfl⟩
  rw [hs'] at hq hlt ⊢
  push_cast at hq
  clear hs'
  go_enter Tryz.func122, Tryz.ntmps122
  go_wp2_with fail
  refine hr.out.mono ?_
  rintro e w1 ⟨rfl, cv', h1⟩
  have x1 := h1.blk.cell
  have f1 := h1.blk.frozen
  have z1 := h1.blk.lt
  have h2 := hid (h1.put 9 (.int .i64 (s' : Int)) { (x.read x.c.sp).c with sp := s' } rfl)
  rw [hc] at x1
  clear h1 hr x0
  go_wp2
  go_ret
  exact ⟨rfl, cv', h2.out⟩
set_option maxRecDepth 100000 in
theorem get_spec (r : Nat) (w : Bs) (W : World) (X : Nat) (x : Mx) (n : Nat) (vr vm cv : Value) (h : NSt w W X x n vr vm cv) (hl : x.cy.length ≤ 1000) (hk : okM x.m = true) (hh : x.c.h < 256) (hr : r < 8) :
    Calls Tryz.prog 112 #[.pointer (some ⟨X, 0, none⟩), .int .i64 (r : Int)] W fun e W' => e = .returned (.int .i64 (x.getV r : Int)) ∧ ∃ cv', NSt w W' X (x.getX r) n vr vm cv' := by
  have x0 := h.blk.cell
  by_cases h6 : r = 6
  · subst h6
    have e1 : x.getV 6 = peekN x.m x.c.h := rfl
    have e2 : x.getX 6 = x.read x.c.h := rfl
    rw [e1, e2]
    have hrd := hid (read_spec x.c.h w W X x n vr vm cv h hl hk hh)
    obtain ⟨v, hv2⟩ : ∃ v, peekN x.m x.c.h = v := ⟨_, rfl⟩
    rw [hv2] at hrd ⊢
    clear h e1 e2 hv2
    go_enter Tryz.func112, Tryz.ntmps112
    go_wp2_with fail
    refine hrd.out.mono ?_
    rintro e w1 ⟨rfl, cv', h1⟩
    replace h1 := hid h1
    clear hrd x0
    go_wp2
    go_ret
    exact ⟨rfl, cv', h1.out⟩
  · have e2 : x.getX r = x := by unfold Mx.getX; rw [if_neg h6]
    have e1 : x.getV r = x.c.reg r := by unfold Mx.getV; rw [if_neg h6]
    rw [e1, e2]
    replace h := hid h
    clear e1 e2
    have hr7 : r = 0 ∨ r = 1 ∨ r = 2 ∨ r = 3 ∨ r = 4 ∨ r = 5 ∨ r = 7 := by omega
    clear h6 hr
    rcases hr7 with rfl | rfl | rfl | rfl | rfl | rfl | rfl
    all_goals
      go_enter Tryz.func112, Tryz.ntmps112
      go_wp2
      go_ret
      exact ⟨rfl, cv, h.out⟩
set_option maxRecDepth 100000 in
theorem set_spec (r v : Nat) (w : Bs) (W : World) (X : Nat) (x : Mx) (n : Nat) (vr vm cv : Value) (h : NSt w W X x n vr vm cv) (hl : x.cy.length ≤ 1000) (hk : okM x.m = true) (hh : x.c.h < 256) (hr : r < 8) :
    Calls Tryz.prog 111 #[.pointer (some ⟨X, 0, none⟩), .int .i64 (r : Int), .int .i64 (v : Int)] W fun e W' => e = .returned (.tuple #[]) ∧ ∃ vr' vm' cv', NSt w W' X (x.set r v) n vr' vm' cv' := by
  have x0 := h.blk.cell
  by_cases h6 : r = 6
  · subst h6
    have e2 : x.set 6 v = x.write x.c.h v := rfl
    rw [e2]
    have hrd := hid (write_spec x.c.h v w W X x n vr vm cv h hl hk hh)
    clear h e2
    go_enter Tryz.func111, Tryz.ntmps111
    go_wp2_with fail
    refine hrd.out.mono ?_
    rintro e w1 ⟨rfl, vr', vm', cv', h1⟩
    replace h1 := hid h1
    clear hrd x0
    go_wp2
    exact bodyPost_ret (v := .tuple #[]) (by simp [results, Tryz.results111]) rfl ⟨rfl, _, _, _, h1.out⟩
  · have e2 : x.set r v = { x with c := x.c.put v r } := by unfold Mx.set; rw [if_neg h6]
    rw [e2]
    clear e2
    have f0 := h.blk.frozen
    have z0 := h.blk.lt
    have hp : Hid (∀ i c', (macA x.c vr vm x.m.page x.m.screen x.m.locked cv n).setIfInBounds i (.int .i64 (v : Int)) = macA c' vr vm x.m.page x.m.screen x.m.locked cv n → NSt w (W.setCell ⟨X, i, none⟩ (.int .i64 (v : Int))) X { x with c := c' } n vr vm cv) := fun i c' hc => h.put i _ c' hc
    clear h
    have hr7 : r = 0 ∨ r = 1 ∨ r = 2 ∨ r = 3 ∨ r = 4 ∨ r = 5 ∨ r = 7 := by omega
    clear h6 hr
    rcases hr7 with rfl | rfl | rfl | rfl | rfl | rfl | rfl
    all_goals
      go_enter Tryz.func111, Tryz.ntmps111
      go_wp2
      exact bodyPost_end (v := .tuple #[]) (by simp [results, Tryz.results111]) rfl ⟨rfl, _, _, _, hp.out _ _ rfl⟩
end Go.Proofs.YtdfadiicjkenfabGreatDoor
