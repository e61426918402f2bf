/- An instruction that the laws draw, and its bytes: only how many there are. -/
import Derived.Test.YtghcagibdcblnaaGreatDoorF17
namespace Go.Proofs.YtghcagibdcblnaaGreatDoor
open Go.ChangeShapes Go.WideShapes Go.ChangeAt Go.RowKit
set_option linter.unusedVariables false
set_option linter.unusedSimpArgs false

abbrev insVu (o a b n l : Int) : Value := .agg #[.int .i64 o, .int .i64 a, .int .i64 b, .int .i64 n, .int .i64 l]
/-- numbers as an instruction has them -/
def Ins (o a b n l : Int) : Prop := (0 ≤ o ∧ o ≤ 31) ∧ (0 ≤ a ∧ a ≤ 255) ∧ (0 ≤ b ∧ b ≤ 255) ∧ (0 ≤ n ∧ n ≤ 255) ∧ (l = 1 ∨ l = 2)
theorem two_new' {w w1 : World} {A0 A1 : Array Value} {t t1 : TypeId} (hb : Below ((w.alloc (.cells A0 t)).alloc (.cells A1 t1)).heap.size ((w.alloc (.cells A0 t)).alloc (.cells A1 t1)) w1) :
    Blk w1 w.heap.size A0 ∧ Blk w1 (w.heap.size + 1) A1 ∧ Below w.heap.size w w1 := by
  have hs : ((w.alloc (.cells A0 t)).alloc (.cells A1 t1)).heap.size = w.heap.size + 1 + 1 := by simp
  have q1 := Blk.new (w.alloc (.cells A0 t)) A1 t1
  simp only [World.size_alloc] at q1
  refine ⟨((Blk.new w A0 t).alloc _).below hb (by omega), q1.below hb (by omega), ?_⟩
  exact (((Below.refl _ _).alloc (Nat.le_refl _) _).alloc (by simp) _).trans (hb.mono (by omega))
/-- while an instruction is being decoded -/
structure DStU (w W : World) (C : Array Value) : Prop where
  q0 : Blk W w.heap.size #[.int .i64 0, .int .i64 0, .int .i64 0, .int .i64 0, .int .i64 0]
  q1 : Blk W (w.heap.size + 1) C
  bel : Below w.heap.size w W
theorem DStU.start {w w1 : World} {C : Array Value} {t t1 : TypeId} (hb : Below ((w.alloc (.cells #[.int .i64 0, .int .i64 0, .int .i64 0, .int .i64 0, .int .i64 0] t)).alloc (.cells C t1)).heap.size ((w.alloc (.cells #[.int .i64 0, .int .i64 0, .int .i64 0, .int .i64 0, .int .i64 0] t)).alloc (.cells C t1)) w1) : DStU w w1 C :=
  ⟨(two_new' hb).1, (two_new' hb).2.1, (two_new' hb).2.2⟩
theorem DStU.below {w W W' : World} {C : Array Value} (h : DStU w W C) (hb : Below W.heap.size W W') : DStU w W' C :=
  ⟨h.q0.below hb h.q0.lt, h.q1.below hb h.q1.lt, h.bel.trans (hb.mono h.bel.size)⟩
theorem DStU.set {w W : World} {C : Array Value} (h : DStU w W C) (i : Nat) (u : Value) : DStU w (W.setCell ⟨w.heap.size + 1, i, none⟩ u) (C.setIfInBounds i u) :=
  ⟨h.q0.other (by simp) _, h.q1.set i u, h.bel.setCell (p := ⟨w.heap.size + 1, i, none⟩) (by simp) _⟩
def formL : List Value := [Value.string { data := #[] }, Value.string { data := #[65, 66] }, Value.string { data := #[65, 78] },
              Value.string { data := #[78] }, Value.string { data := #[78] }, Value.string { data := #[65, 66] },
              Value.string { data := #[65, 78] }, Value.string { data := #[65] }, Value.string { data := #[65] },
              Value.string { data := #[65, 66] }, Value.string { data := #[65, 66] }, Value.string { data := #[] },
              Value.string { data := #[65, 78] }, Value.string { data := #[65, 78] }, Value.string { data := #[65] },
              Value.string { data := #[65] }, Value.string { data := #[65] }, Value.string { data := #[78] },
              Value.string { data := #[78] }, Value.string { data := #[] }, Value.string { data := #[] },
              Value.string { data := #[] }, Value.string { data := #[] }]
theorem formL_all : ∀ v, v ∈ formL → ∃ s : ByteArray, v = .string s ∧ s.size ≤ 2 := by
  intro v hv
  simp only [formL, List.mem_cons, List.not_mem_nil, or_false] at hv
  rcases hv with h | h | h | h | h | h | h | h | h | h | h | h | h | h | h | h | h | h | h | h | h | h | h <;> exact ⟨_, h, by decide⟩
set_option maxRecDepth 100000 in
theorem form_any (o : Int) (w : World) (h0 : 0 ≤ o) (h1 : o ≤ 22) :
    Calls Tryz.prog 93 #[.int .i64 o] w fun e w' => (∃ s : ByteArray, e = .returned (.string s) ∧ s.size ≤ 2) ∧ Below w.heap.size w w' := by
  obtain ⟨k, rfl⟩ : ∃ k : Nat, o = (k : Int) := ⟨o.toNat, by omega⟩
  have hk : k < 23 := by omega
  obtain ⟨s, hs, h2⟩ := formL_all _ (List.getElem_mem (l := formL) (n := k) hk)
  replace hs := hid hs
  go_enter Tryz.func93, Tryz.ntmps93
  go_wp2
  go_ret
  refine ⟨⟨s, ?_, h2⟩, (Below.refl _ _).alloc (Nat.le_refl _) _⟩
  exact congrArg Ending.returned hs.out
theorem has_any (o c : Int) (w : World) (h0 : 0 ≤ o) (h1 : o ≤ 22) :
    Calls Tryz.prog 81 #[.int .i64 o, .int .u8 c] w fun e w' => (∃ b : Bool, e = .returned (.bool b)) ∧ Below w.heap.size w w' := by
  go_enter Tryz.func81, Tryz.ntmps81
  go_wp2_with fail
  refine (form_any o _ h0 h1).mono ?_
  rintro e w1 ⟨⟨s, rfl, hs⟩, hb1⟩
  replace hb1 := hid hb1
  go_wp2
  go_loop [6] (fun i => ∃ k : Nat, k ≤ s.size ∧ i = .int .i64 k) (fun i => s.size - (intOf i).toNat)
  case atStart => exact ⟨0, by omega, rfl⟩
  case round =>
    obtain ⟨k, hk, rfl⟩ := hrel
    by_cases hlt : k < s.size
    · have hid1 := run_idx s (k : Int) k rfl hlt
      generalize byt s k = z at *
      cases hz : (z == c)
      · go_wp2
        go_round
        case rel => exact ⟨k + 1, by omega, by go_num⟩
        case measure => simp [intOf]; omega
      · go_wp2
        go_ret
        exact ⟨.inr rfl, hb1.out⟩
    · obtain rfl : k = s.size := by omega
      go_wp2
      go_ret
      exact ⟨.inl rfl, hb1.out⟩
set_option maxRecDepth 100000 in
set_option maxHeartbeats 1000000 in
theorem decode_any (x y : Int) (w : World) (hx0 : 0 ≤ x) (hx1 : x ≤ 255) (hy0 : 0 ≤ y) (hy1 : y ≤ 255) :
    Calls Tryz.prog 50 #[.int .i64 x, .int .i64 y] w fun e w' => (∃ o a b n l, e = .returned (insVu o a b n l) ∧ Ins o a b n l) ∧ Below w.heap.size w w' := by
  by_cases h23 : 23 ≤ x / 8
  · have hE : Hid (Ins 23 0 0 x 1) := by unfold Hid Ins; omega
    go_enter Tryz.func50, Tryz.ntmps50
    go_wp2
    refine bodyPost_ret (v := insVu 23 0 0 x 1) (by simp [results, Tryz.results50, go_sem]) rfl ⟨⟨_, _, _, _, _, rfl, hE.out⟩, ?_⟩
    exact (Below.refl _ _).alloc (Nat.le_refl _) _
  obtain ⟨o, ho⟩ : ∃ o : Int, x / 8 = o := ⟨_, rfl⟩
  obtain ⟨r, hr⟩ : ∃ o : Int, x % 8 = o := ⟨_, rfl⟩
  obtain ⟨t, ht⟩ : ∃ o : Int, y % 8 = o := ⟨_, rfl⟩
  have ho0 : 0 ≤ o := by omega
  have ho1 : o ≤ 22 := by omega
  have hr0 : 0 ≤ r ∧ r ≤ 7 := by omega
  have ht0 : 0 ≤ t ∧ t ≤ 7 := by omega
  have hI : Hid (∀ a b n l, (a = 0 ∨ a = r) → (b = 0 ∨ b = t) → (n = 0 ∨ n = y) → (l = 1 ∨ l = 2) → Ins o a b n l) := fun a b n l h1 h2 h3 h4 => by unfold Ins; omega
  have ho2 : (23 ≤ o) = False := by simp; omega
  clear h23
  go_enter Tryz.func50, Tryz.ntmps50
  go_wp2_with fail
  refine (has_any o 65 _ ho0 ho1).mono ?_
  rintro e v1 ⟨⟨b1, rfl⟩, hb1⟩
  have S1 := hid (DStU.start hb1)
  have x1 := S1.out.q1.cell
  have f1 := S1.out.q1.frozen
  have z1 := S1.out.q1.lt
  clear hb1
  cases b1
  · skip
    go_wp2_with fail
    clear x1 f1 z1
    refine (has_any o 66 _ ho0 ho1).mono ?_
    rintro e v2 ⟨⟨b2, rfl⟩, hb2⟩
    have S2 := hid (S1.out.below hb2)
    have x2 := S2.out.q1.cell
    have f2 := S2.out.q1.frozen
    have z2 := S2.out.q1.lt
    clear hb2 S1
    cases b2
    · skip
      go_wp2_with fail
      clear x2 f2 z2
      refine (has_any o 78 _ ho0 ho1).mono ?_
      rintro e v3 ⟨⟨b3, rfl⟩, hb3⟩
      have S3 := hid (S2.out.below hb3)
      have x3 := S3.out.q1.cell
      have f3 := S3.out.q1.frozen
      have z3 := S3.out.q1.lt
      clear hb3 S2
      cases b3
      · skip
        have x0 := S3.out.q0.cell
        have f0 := S3.out.q0.frozen
        have hz0 := S3.out.q0.lt
        go_wp2
        refine bodyPost_ret (v := insVu o 0 0 0 1) (by simp [results, Tryz.results50, go_sem, x0]) rfl ⟨⟨_, _, _, _, _, rfl, hI.out _ _ _ _ (by simp) (by simp) (by simp) (by simp)⟩, ?_⟩
        iterate 5 refine Below.setCell ?_ (by first | omega | (simp; done) | (simp; omega)) _
        exact S3.out.bel
      · skip
        have T3 : Hid (DStU w ((v3.setCell ⟨w.heap.size + 1, 3, none⟩ (.int .i64 y)).setCell ⟨w.heap.size + 1, 4, none⟩ (.int .i64 2)) #[.int .i64 o, .int .i64 0, .int .i64 0, .int .i64 y, .int .i64 2]) := ((S3.out.set 3 (.int .i64 y)).set 4 (.int .i64 2))
        obtain ⟨W3, hW3⟩ : ∃ W3, ((v3.setCell ⟨w.heap.size + 1, 3, none⟩ (.int .i64 y)).setCell ⟨w.heap.size + 1, 4, none⟩ (.int .i64 2)) = W3 := ⟨_, rfl⟩
        rw [hW3] at T3
        have x0 := T3.out.q0.cell
        have f0 := T3.out.q0.frozen
        have hz0 := T3.out.q0.lt
        have y0 := T3.out.q1.cell
        go_wp2
        refine bodyPost_ret (v := insVu o 0 0 y 2) (by simp [results, Tryz.results50, go_sem, x0]) rfl ⟨⟨_, _, _, _, _, rfl, hI.out _ _ _ _ (by simp) (by simp) (by simp) (by simp)⟩, ?_⟩
        iterate 5 refine Below.setCell ?_ (by first | omega | (simp; done) | (simp; omega)) _
        exact T3.out.bel
    · skip
      have T2 : Hid (DStU w ((v2.setCell ⟨w.heap.size + 1, 2, none⟩ (.int .i64 t)).setCell ⟨w.heap.size + 1, 4, none⟩ (.int .i64 2)) #[.int .i64 o, .int .i64 0, .int .i64 t, .int .i64 0, .int .i64 2]) := ((S2.out.set 2 (.int .i64 t)).set 4 (.int .i64 2))
      obtain ⟨W2, hW2⟩ : ∃ W2, ((v2.setCell ⟨w.heap.size + 1, 2, none⟩ (.int .i64 t)).setCell ⟨w.heap.size + 1, 4, none⟩ (.int .i64 2)) = W2 := ⟨_, rfl⟩
      rw [hW2] at T2
      go_wp2_with fail
      clear hW2 x2 f2 z2 S2
      refine (has_any o 78 _ ho0 ho1).mono ?_
      rintro e v4 ⟨⟨b4, rfl⟩, hb4⟩
      have S4 := hid (T2.out.below hb4)
      have x4 := S4.out.q1.cell
      have f4 := S4.out.q1.frozen
      have z4 := S4.out.q1.lt
      clear hb4 T2
      cases b4
      · skip
        have x0 := S4.out.q0.cell
        have f0 := S4.out.q0.frozen
        have hz0 := S4.out.q0.lt
        go_wp2
        refine bodyPost_ret (v := insVu o 0 t 0 2) (by simp [results, Tryz.results50, go_sem, x0]) rfl ⟨⟨_, _, _, _, _, rfl, hI.out _ _ _ _ (by simp) (by simp) (by simp) (by simp)⟩, ?_⟩
        iterate 5 refine Below.setCell ?_ (by first | omega | (simp; done) | (simp; omega)) _
        exact S4.out.bel
      · skip
        have T4 : Hid (DStU w ((v4.setCell ⟨w.heap.size + 1, 3, none⟩ (.int .i64 y)).setCell ⟨w.heap.size + 1, 4, none⟩ (.int .i64 2)) #[.int .i64 o, .int .i64 0, .int .i64 t, .int .i64 y, .int .i64 2]) := ((S4.out.set 3 (.int .i64 y)).set 4 (.int .i64 2))
        obtain ⟨W4, hW4⟩ : ∃ W4, ((v4.setCell ⟨w.heap.size + 1, 3, none⟩ (.int .i64 y)).setCell ⟨w.heap.size + 1, 4, none⟩ (.int .i64 2)) = W4 := ⟨_, rfl⟩
        rw [hW4] at T4
        have x0 := T4.out.q0.cell
        have f0 := T4.out.q0.frozen
        have hz0 := T4.out.q0.lt
        have y0 := T4.out.q1.cell
        go_wp2
        refine bodyPost_ret (v := insVu o 0 t y 2) (by simp [results, Tryz.results50, go_sem, x0]) rfl ⟨⟨_, _, _, _, _, rfl, hI.out _ _ _ _ (by simp) (by simp) (by simp) (by simp)⟩, ?_⟩
        iterate 5 refine Below.setCell ?_ (by first | omega | (simp; done) | (simp; omega)) _
        exact T4.out.bel
  · skip
    have T1 : Hid (DStU w (v1.setCell ⟨w.heap.size + 1, 1, none⟩ (.int .i64 r)) #[.int .i64 o, .int .i64 r, .int .i64 0, .int .i64 0, .int .i64 1]) := (S1.out.set 1 (.int .i64 r))
    obtain ⟨W1, hW1⟩ : ∃ W1, (v1.setCell ⟨w.heap.size + 1, 1, none⟩ (.int .i64 r)) = W1 := ⟨_, rfl⟩
    rw [hW1] at T1
    go_wp2_with fail
    clear hW1 x1 f1 z1 S1
    refine (has_any o 66 _ ho0 ho1).mono ?_
    rintro e v5 ⟨⟨b5, rfl⟩, hb5⟩
    have S5 := hid (T1.out.below hb5)
    have x5 := S5.out.q1.cell
    have f5 := S5.out.q1.frozen
    have z5 := S5.out.q1.lt
    clear hb5 T1
    cases b5
    · skip
      go_wp2_with fail
      clear x5 f5 z5
      refine (has_any o 78 _ ho0 ho1).mono ?_
      rintro e v6 ⟨⟨b6, rfl⟩, hb6⟩
      have S6 := hid (S5.out.below hb6)
      have x6 := S6.out.q1.cell
      have f6 := S6.out.q1.frozen
      have z6 := S6.out.q1.lt
      clear hb6 S5
      cases b6
      · skip
        have x0 := S6.out.q0.cell
        have f0 := S6.out.q0.frozen
        have hz0 := S6.out.q0.lt
        go_wp2
        refine bodyPost_ret (v := insVu o r 0 0 1) (by simp [results, Tryz.results50, go_sem, x0]) rfl ⟨⟨_, _, _, _, _, rfl, hI.out _ _ _ _ (by simp) (by simp) (by simp) (by simp)⟩, ?_⟩
        iterate 5 refine Below.setCell ?_ (by first | omega | (simp; done) | (simp; omega)) _
        exact S6.out.bel
      · skip
        have T6 : Hid (DStU w ((v6.setCell ⟨w.heap.size + 1, 3, none⟩ (.int .i64 y)).setCell ⟨w.heap.size + 1, 4, none⟩ (.int .i64 2)) #[.int .i64 o, .int .i64 r, .int .i64 0, .int .i64 y, .int .i64 2]) := ((S6.out.set 3 (.int .i64 y)).set 4 (.int .i64 2))
        obtain ⟨W6, hW6⟩ : ∃ W6, ((v6.setCell ⟨w.heap.size + 1, 3, none⟩ (.int .i64 y)).setCell ⟨w.heap.size + 1, 4, none⟩ (.int .i64 2)) = W6 := ⟨_, rfl⟩
        rw [hW6] at T6
        have x0 := T6.out.q0.cell
        have f0 := T6.out.q0.frozen
        have hz0 := T6.out.q0.lt
        have y0 := T6.out.q1.cell
        go_wp2
        refine bodyPost_ret (v := insVu o r 0 y 2) (by simp [results, Tryz.results50, go_sem, x0]) rfl ⟨⟨_, _, _, _, _, rfl, hI.out _ _ _ _ (by simp) (by simp) (by simp) (by simp)⟩, ?_⟩
        iterate 5 refine Below.setCell ?_ (by first | omega | (simp; done) | (simp; omega)) _
        exact T6.out.bel
    · skip
      have T5 : Hid (DStU w ((v5.setCell ⟨w.heap.size + 1, 2, none⟩ (.int .i64 t)).setCell ⟨w.heap.size + 1, 4, none⟩ (.int .i64 2)) #[.int .i64 o, .int .i64 r, .int .i64 t, .int .i64 0, .int .i64 2]) := ((S5.out.set 2 (.int .i64 t)).set 4 (.int .i64 2))
      obtain ⟨W5, hW5⟩ : ∃ W5, ((v5.setCell ⟨w.heap.size + 1, 2, none⟩ (.int .i64 t)).setCell ⟨w.heap.size + 1, 4, none⟩ (.int .i64 2)) = W5 := ⟨_, rfl⟩
      rw [hW5] at T5
      go_wp2_with fail
      clear hW5 x5 f5 z5 S5
      refine (has_any o 78 _ ho0 ho1).mono ?_
      rintro e v7 ⟨⟨b7, rfl⟩, hb7⟩
      have S7 := hid (T5.out.below hb7)
      have x7 := S7.out.q1.cell
      have f7 := S7.out.q1.frozen
      have z7 := S7.out.q1.lt
      clear hb7 T5
      cases b7
      · skip
        have x0 := S7.out.q0.cell
        have f0 := S7.out.q0.frozen
        have hz0 := S7.out.q0.lt
        go_wp2
        refine bodyPost_ret (v := insVu o r t 0 2) (by simp [results, Tryz.results50, go_sem, x0]) rfl ⟨⟨_, _, _, _, _, rfl, hI.out _ _ _ _ (by simp) (by simp) (by simp) (by simp)⟩, ?_⟩
        iterate 5 refine Below.setCell ?_ (by first | omega | (simp; done) | (simp; omega)) _
        exact S7.out.bel
      · skip
        have T7 : Hid (DStU w ((v7.setCell ⟨w.heap.size + 1, 3, none⟩ (.int .i64 y)).setCell ⟨w.heap.size + 1, 4, none⟩ (.int .i64 2)) #[.int .i64 o, .int .i64 r, .int .i64 t, .int .i64 y, .int .i64 2]) := ((S7.out.set 3 (.int .i64 y)).set 4 (.int .i64 2))
        obtain ⟨W7, hW7⟩ : ∃ W7, ((v7.setCell ⟨w.heap.size + 1, 3, none⟩ (.int .i64 y)).setCell ⟨w.heap.size + 1, 4, none⟩ (.int .i64 2)) = W7 := ⟨_, rfl⟩
        rw [hW7] at T7
        have x0 := T7.out.q0.cell
        have f0 := T7.out.q0.frozen
        have hz0 := T7.out.q0.lt
        have y0 := T7.out.q1.cell
        go_wp2
        refine bodyPost_ret (v := insVu o r t y 2) (by simp [results, Tryz.results50, go_sem, x0]) rfl ⟨⟨_, _, _, _, _, rfl, hI.out _ _ _ _ (by simp) (by simp) (by simp) (by simp)⟩, ?_⟩
        iterate 5 refine Below.setCell ?_ (by first | omega | (simp; done) | (simp; omega)) _
        exact T7.out.bel
theorem instr_any (p : Nat) (a : Option Addr) (len cap n : Nat) (w : World) (hs : Src w p a len cap n) (hn : n + 6 ≤ 1000000000) :
    Calls Tryz.prog 23 #[.pointer (some ⟨p, 0, none⟩)] w fun e w' => (∃ o a b n l, e = .returned (insVu o a b n l) ∧ Ins o a b n l) ∧ (∃ n', n' ≤ n + 6 ∧ Src w' p a len cap n') ∧ w.grownBy w' (some p) := by
  have hp := hs.lt
  have hs1 : Hid (∀ o, Src (w.alloc o) p a len cap n) := fun o => hs.kept (r := none) (World.grownBy_alloc _ _ _) (by intro g e; cases e)
  clear hs
  go_enter Tryz.func23, Tryz.ntmps23
  go_wp2_with fail
  refine (next_any p a len cap n 256 _ (hs1.out _) (by omega)).mono ?_
  rintro e w2 ⟨⟨x, rfl, hx0, _, hx1⟩, ⟨n2, hn2, hs2⟩, hg2⟩
  have hx2 := hx1 (by omega)
  have q2 := (Blk.new w _ _).grown hg2 (by simp; omega)
  have hz2 := q2.lt
  have hgw : w.grownBy w2 (some p) := ⟨hg2.os, hg2.tape, hg2.output, by have := hg2.size; rw [World.size_alloc] at this; omega, fun k hk hne => (hg2.block k (by rw [World.size_alloc]; omega) hne).trans (Below.heap_alloc _ _ _ hk)⟩
  replace q2 := hid q2
  replace hgw := hid hgw
  replace hs2 := hid hs2
  clear hg2 hs1 hx1
  go_wp2_with fail
  refine (next_any p a len cap n2 256 _ hs2.out (by omega)).mono ?_
  rintro e w3 ⟨⟨y, rfl, hy0, _, hy1⟩, ⟨n3, hn3, hs3⟩, hg3⟩
  have hy2 := hy1 (by omega)
  have q3 := hid (q2.out.grown hg3 (by simp; omega))
  have hgw3 := hid (grown_two hgw.out hg3)
  replace hs3 := hid hs3
  clear hg3 hs2 hy1 q2 hgw
  go_wp2_with fail
  refine (decode_any x y _ hx0 (by omega) hy0 (by omega)).mono ?_
  rintro e w4 ⟨⟨o, i, j, k, l, rfl, hI⟩, hb4⟩
  have q4 := q3.out.below hb4 q3.out.lt
  have x4 := q4.cell
  have f4 := q4.frozen
  have hb4' : w3.grownBy w4 (some p) := ⟨hb4.os, hb4.tape, hb4.output, hb4.size, fun b hb _ => hb4.block b hb⟩
  have hs4 := hid (hs3.out.kept (r := none) ⟨hb4.os, hb4.tape, hb4.output, hb4.size, fun b hb _ => hb4.block b hb⟩ (by intro g e; cases e))
  have hgw4 := hid (grown_two hgw3.out hb4')
  replace hI := hid hI
  clear q3 q4 hs3 hb4 hb4' hgw3
  go_wp2
  refine bodyPost_ret (v := insVu o i j k l) (by simp [results, Tryz.results23, go_sem, x4]) rfl ⟨⟨_, _, _, _, _, rfl, hI.out⟩, ⟨n3, by omega, ?_⟩, ?_⟩
  · iterate 5 refine Src.setO ?_ hp
    exact hs4.out
  · iterate 5 refine grown_setO ?_ (Nat.le_refl _)
    exact hgw4.out
theorem infoE1 : (Tryz.prog.info? 3).map (fun i => (i.zero, i.size, i.bytes)) = some (some (.int .i64 0), 1, 8) := by kernel_rfl
theorem row_of_blk {w : World} {b cap : Nat} {z : Int} (h : Blk w b #[.int .i64 z]) : RowR w (.slice (some ⟨b, 0, none⟩) 1 cap) [z] :=
  ⟨_, cap, rfl, .inr ⟨b, 0, rfl, fun i hi => by
    have hi : i < 1 := hi
    obtain rfl : i = 0 := by omega
    exact h.cell 0⟩⟩
theorem row_two_app (W : World) (z y : Int) (X : Array Value) (t : TypeId) (o1 o2 o3 : Obj) (cap : Nat) : RowR ((((W.alloc o1).alloc o2).alloc o3).alloc (.cells (#[.int .i64 z, .int .i64 y] ++ X) t)).drew (.slice (some ⟨W.heap.size + 1 + 1 + 1, 0, none⟩) 2 cap) [z, y] := by
  have h := (Blk.new (((W.alloc o1).alloc o2).alloc o3) (#[.int .i64 z, .int .i64 y] ++ X) t).cell
  simp only [World.size_alloc] at h
  refine ⟨_, cap, rfl, .inr ⟨_, 0, rfl, fun i hi => ?_⟩⟩
  have hi : i < 2 := hi
  rw [World.cell?_drew, Nat.zero_add, h i]
  rcases (by omega : i = 0 ∨ i = 1) with rfl | rfl
  · simp [Array.getElem?_append]
  · simp [Array.getElem?_append]
set_option maxRecDepth 100000 in
theorem encode_any (o a b n l : Int) (w : World) (hI : Ins o a b n l) :
    Calls Tryz.prog 26 #[insVu o a b n l] w fun e w' => (∃ g m cap zs, e = .returned (.slice (some ⟨g, 0, none⟩) m cap) ∧ RowR w' (.slice (some ⟨g, 0, none⟩) m cap) zs ∧ zs.length = m ∧ (m = 1 ∨ m = 2) ∧ w.heap.size ≤ g ∧ g < w'.heap.size) ∧ Below w.heap.size w w' := by
  obtain ⟨i0, hi0, hz0, hz1, hz2⟩ := info_parts infoE1
  obtain ⟨h1, h2, h3, h4, h5⟩ := hI
  have hB : Hid (∀ o1 o2, Below w.heap.size w ((w.alloc o1).alloc o2)) := fun o1 o2 => ((Below.refl _ _).alloc (Nat.le_refl _) _).alloc (by simp) _
  have hR : Hid (∀ o1 z t cap, RowR ((w.alloc o1).alloc (.cells #[.int .i64 z] t)) (.slice (some ⟨w.heap.size + 1, 0, none⟩) 1 cap) [z]) := fun o1 z t cap => row_of_blk (by
    have := Blk.new (w.alloc o1) #[.int .i64 z] t
    rw [World.size_alloc] at this
    exact this)
  have hB4 : Hid (∀ o1 o2 o3 o4, Below w.heap.size w ((((w.alloc o1).alloc o2).alloc o3).alloc o4).drew) := fun o1 o2 o3 o4 => (((((Below.refl _ _).alloc (Nat.le_refl _) _).alloc (by simp) _).alloc (by simp; omega) _).alloc (by simp; omega) _).drew
  by_cases h23 : o = 23
  · subst h23
    go_enter Tryz.func26, Tryz.ntmps26
    go_wp2
    go_ret
    exact ⟨⟨_, _, _, _, rfl, hR.out _ _ _ _, rfl, .inl rfl, by omega, by simp⟩, hB.out _ _⟩
  have hn : (o == 23) = false := by simpa using h23
  clear h23
  obtain ⟨z, hz⟩ : ∃ z : Int, 8 * o + a = z := ⟨_, rfl⟩
  obtain ⟨y, hy⟩ : ∃ y : Int, b + n = y := ⟨_, rfl⟩
  rcases h5 with rfl | rfl
  · go_enter Tryz.func26, Tryz.ntmps26
    go_wp2
    go_ret
    exact ⟨⟨_, _, _, _, rfl, hR.out _ _ _ _, rfl, .inl rfl, by omega, by simp⟩, hB.out _ _⟩
  · go_enter Tryz.func26, Tryz.ntmps26
    go_wp2_with fail
    go_ret
    exact ⟨⟨_, _, _, _, rfl, row_two_app _ _ _ _ _ _ _ _ _, rfl, .inr rfl, by omega, by simp⟩, hB4.out _ _ _ _⟩
end Go.Proofs.YtghcagibdcblnaaGreatDoor
