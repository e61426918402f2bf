/- What the program encodes. -/
import Derived.Test.YtneagomkohoceaaDoorKbc
import Derived.Test.YtneagomkohoceaaDoorKec
import Derived.Test.YtneagomkohoceaaDoorIcc
import Derived.Test.YtneagomkohoceaaDoorKjc
import Derived.Test.YtneagomkohoceaaDoorKcc
import Derived.Lib.LaidTab
import Derived.Test.YtneagomkohoceaaDoorIec
namespace Go.Proofs.YtneagomkohoceaaDoor
open Go.ChangeShapes Go.WideShapes Go.ChangeAt Go.RowKit
set_option linter.unusedVariables false
set_option linter.unusedSimpArgs false

theorem ok_one {o a b n l : Int} (h : okI o a b n l = true) : b = 0 ∨ n = 0 := by
  have hbo := okI_bd h
  obtain ⟨k, rfl⟩ : ∃ k : Nat, o = (k : Int) := ⟨o.toNat, by omega⟩
  have hk : k < 24 := by omega
  rw [okK_eq k hk] at h
  unfold okK loM hiM whenM at h
  rcases kd_six k hk with ⟨g1, g2, g4, g8, g6⟩ | ⟨g1, g2, g4, g8, g6⟩ | ⟨g1, g2, g4, g8, g6⟩ | ⟨g1, g2, g4, g8, g6⟩ | ⟨g1, g2, g4, g8, g6⟩ | ⟨g1, g2, g4, g8, g6⟩
  all_goals
    rw [g1, g2, g4, g8] at h
    simp [inB] at h
    omega
theorem or_sum (O A : Nat) (hO : O < 24) (hA : A < 8) : bits .or .i64 ((O : Int) * 8) (A : Int) = 8 * (O : Int) + (A : Int) := by
  have e : ((O : Int) * 8) = ((O * 8 : Nat) : Int) := by simp
  rw [e, bOr (O * 8) A (by omega) (by omega)]
  have h := Nat.two_pow_add_eq_or_of_lt (i := 3) (show A < 2 ^ 3 by omega) O
  have e2 : Nat.lor (O * 8) A = 2 ^ 3 * O + A := by rw [h, Nat.mul_comm O 8]; rfl
  rw [e2]
  omega
theorem or_one (B N : Nat) (hB : B < 8) (hN : N < 256) (h : B = 0 ∨ N = 0) : bits .or .i64 (B : Int) (N : Int) = (B : Int) + (N : Int) := by
  rw [bOr B N (by omega) (by omega)]
  rcases h with rfl | rfl
  · have e : Nat.lor 0 N = N := Nat.zero_or N
    rw [e]; omega
  · have e : Nat.lor B 0 = B := Nat.or_zero B
    rw [e]; omega
theorem rowO_1' (W : World) (z : Int) (t : TypeId) : RowO (W.alloc (.cells #[.int .i64 z] t)) W.heap.size (.slice (some ⟨W.heap.size, 0, none⟩) 1 1) [z] := by
  have h := heap_alloc_new W (.cells #[.int .i64 z] t)
  exact rowO_lit (zs := [z]) h (fun i hi => by
    have hi : i < 1 := hi
    obtain rfl : i = 0 := by omega
    rfl)
theorem rowO_2' (W : World) (o2 o3 : Obj) (z y : Int) (X : Array Value) (t : TypeId) (cap : Nat) : RowO (((W.alloc o2).alloc o3).alloc (.cells (#[.int .i64 z, .int .i64 y] ++ X) t)).drew (W.heap.size + 1 + 1) (.slice (some ⟨W.heap.size + 1 + 1, 0, none⟩) 2 cap) [z, y] := by
  have h := heap_alloc_new ((W.alloc o2).alloc o3) (.cells (#[.int .i64 z, .int .i64 y] ++ X) t)
  simp only [World.size_alloc] at h
  exact rowO_lit (zs := [z, y]) h (fun i hi => by
    have hi : i < 2 := hi
    rcases (by omega : i = 0 ∨ i = 1) with rfl | rfl
    · simp [Array.getElem?_append]
    · simp [Array.getElem?_append])
set_option maxRecDepth 100000 in
theorem enc_impl (o a b n l : Int) (w : World) (hK : Kinds w) :
    Calls Tryd.prog 8 #[insV o a b n l] w fun e w' => ∃ u, e = .returned (.tuple #[u, .int .i64 (okIc o a b n l)]) ∧ RowA w' w.heap.size u (encR o a b n l) ∧ Below w.heap.size w w' := by
  obtain ⟨i0, hi0, hz0, hz1, hz2⟩ := info_parts infoE1
  have hb0 := hid ((Below.refl w.heap.size w).alloc (Nat.le_refl _) (.cells (insA o a b n l) 24))
  have hq0 := hid (Blk.new w (insA o a b n l) 24)
  have hk0 := hid (hK.below hb0.out)
  clear hK
  cases hk : okI o a b n l
  · have e1 : okIc o a b n l = 1 := by unfold okIc; rw [hk]; rfl
    have e2 : encR o a b n l = [] := by unfold encR; rw [hk]; rfl
    rw [e1, e2]
    go_enter Tryd.func8, Tryd.ntmps8
    go_wp2_with fail
    refine (insok_impl _ _ _ _ _ _ hk0.out).mono ?_
    rintro e w1 ⟨rfl, hb1⟩
    rw [hk]
    have hb2 := hid (new_trans hb0.out hb1)
    clear hb1 hb0 hq0 hk0
    go_wp2
    go_ret2
    exact ⟨_, rfl, .inl ⟨rfl, _, _, rfl⟩, hb2.out⟩
  have e1 : okIc o a b n l = 0 := by unfold okIc; rw [hk]; rfl
  have e2 : encR o a b n l = encL o a b n l := by unfold encR; rw [if_pos hk]
  rw [e1, e2]
  clear e1 e2
  obtain ⟨h1, h2, h3, h4, h5⟩ := okI_bd hk
  have hon := ok_one hk
  obtain ⟨O, rfl⟩ : ∃ X : Nat, o = (X : Int) := ⟨o.toNat, by omega⟩
  obtain ⟨A, rfl⟩ : ∃ X : Nat, a = (X : Int) := ⟨a.toNat, by omega⟩
  obtain ⟨B, rfl⟩ : ∃ X : Nat, b = (X : Int) := ⟨b.toNat, by omega⟩
  obtain ⟨N, rfl⟩ : ∃ X : Nat, n = (X : Int) := ⟨n.toNat, by omega⟩
  have r1 := or_sum O A (by omega) (by omega)
  have r2 := or_one B N (by omega) (by omega) (by omega)
  have hB1 : Hid (∀ w1 o1, Below w.heap.size w w1 → Below w.heap.size w (w1.alloc o1)) := fun w1 o1 h => h.alloc h.size _
  have hB3 : Hid (∀ w1 o1 o2 o3, Below w.heap.size w w1 → Below w.heap.size w (((w1.alloc o1).alloc o2).alloc o3).drew) := fun w1 o1 o2 o3 h => (((h.alloc h.size _).alloc (by have := h.size; simp; omega) _).alloc (by have := h.size; simp; omega) _).drew
  by_cases h23 : O = 23
  · subst h23
    have e : encL ((23 : Nat) : Int) A B N l = [(N : Int)] := rfl
    rw [e]
    clear e r1 r2
    have hk' : okI 23 (A : Int) B N l = true := hk
    go_enter Tryd.func8, Tryd.ntmps8
    go_wp2_with fail
    refine (insok_impl _ _ _ _ _ _ hk0.out).mono ?_
    rintro e w1 ⟨rfl, hb1⟩
    rw [hk']
    have hb2 := hid (new_trans hb0.out hb1)
    have hq2 := hid (hq0.out.below hb1 hq0.out.lt)
    have x1 := hq2.out.cell
    clear hb1 hb0 hq0 hk0 hk hk' h5 hon
    go_wp2
    go_ret2
    exact ⟨_, rfl, .inr ⟨_, hb2.out.size, rowO_1' _ _ _⟩, hB1.out _ _ hb2.out⟩
  have hn : ((O : Int) == 23) = false := by simp; omega
  rcases h5 with rfl | rfl
  · have e : encL O A B N 1 = [8 * (O : Int) + A] := by unfold encL; rw [if_neg (by omega)]; rfl
    rw [e]
    clear e r2
    generalize 8 * (O : Int) + A = z at *
    go_enter Tryd.func8, Tryd.ntmps8
    go_wp2_with fail
    refine (insok_impl _ _ _ _ _ _ hk0.out).mono ?_
    rintro e w1 ⟨rfl, hb1⟩
    rw [hk]
    have hb2 := hid (new_trans hb0.out hb1)
    have hq2 := hid (hq0.out.below hb1 hq0.out.lt)
    have x1 := hq2.out.cell
    have z1 := hq2.out.lt
    clear hb1 hb0 hq0 hk0 hk hon
    go_wp2
    go_ret2
    exact ⟨_, rfl, .inr ⟨_, hb2.out.size, rowO_1' _ _ _⟩, hB1.out _ _ hb2.out⟩
  · have e : encL O A B N 2 = [8 * (O : Int) + A, (B : Int) + N] := by unfold encL; rw [if_neg (by omega)]; rfl
    rw [e]
    clear e
    generalize 8 * (O : Int) + A = z at *
    generalize (B : Int) + N = y at *
    go_enter Tryd.func8, Tryd.ntmps8
    go_wp2_with fail
    refine (insok_impl _ _ _ _ _ _ hk0.out).mono ?_
    rintro e w1 ⟨rfl, hb1⟩
    rw [hk]
    have hb2 := hid (new_trans hb0.out hb1)
    have hq2 := hid (hq0.out.below hb1 hq0.out.lt)
    have x1 := hq2.out.cell
    have z1 := hq2.out.lt
    have s1 := hb2.out.size
    clear hb1 hb0 hq0 hk0 hk hon
    go_wp2_with fail
    go_ret2
    exact ⟨_, rfl, .inr ⟨_, by omega, rowO_2' _ _ _ _ _ _ _ _⟩, hB3.out _ _ _ _ hb2.out⟩
end Go.Proofs.YtneagomkohoceaaDoor

/- An instruction's text, or the code of one that is none, as the specification gives it; what the row's list of variables gives. -/
namespace Go.Proofs.YtneagomkohoceaaDoor
open Go.ChangeShapes Go.WideShapes Go.ChangeAt Go.RowKit
set_option linter.unusedVariables false
set_option linter.unusedSimpArgs false

theorem text_spec (o a b n l : Int) (w : World) :
    Calls Tryd.prog 15 #[insV o a b n l] w fun e w' => e = .returned (text2 o a b n l) ∧ Below w.heap.size w w' := by
  have hb0 := hid ((Below.refl w.heap.size w).alloc (Nat.le_refl _) (.cells (insA o a b n l) 24))
  have hq0 := hid (Blk.new w (insA o a b n l) 24)
  cases hok : okI o a b n l
  · have e : text2 o a b n l = .tuple #[.string ⟨#[]⟩, .int .i64 1] := by unfold text2; rw [hok]; rfl
    rw [e]
    clear e
    go_enter Tryd.func15, Tryd.ntmps15
    go_wp2_with fail
    refine (insok_spec _ _ _ _ _ _).mono ?_
    rintro e w1 ⟨rfl, hb⟩
    rw [hok]
    have hb1 := hid (new_trans hb0.out hb)
    clear hb hb0 hq0
    go_wp2
    go_ret2
    exact ⟨rfl, hb1.out⟩
  obtain ⟨h1, h2, h3, h4, h5⟩ := okI_bd hok
  obtain ⟨k, rfl⟩ : ∃ X : Nat, o = (X : Int) := ⟨o.toNat, by omega⟩
  obtain ⟨A, rfl⟩ : ∃ X : Nat, a = (X : Int) := ⟨a.toNat, by omega⟩
  obtain ⟨B, rfl⟩ : ∃ X : Nat, b = (X : Int) := ⟨b.toNat, by omega⟩
  obtain ⟨N, rfl⟩ : ∃ X : Nat, n = (X : Int) := ⟨n.toNat, by omega⟩
  have e : text2 k A B N l = .tuple #[.string (textB k A B N), .int .i64 0] := by unfold text2; rw [hok]; rfl
  rw [e]
  clear e
  go_enter Tryd.func15, Tryd.ntmps15
  go_wp2_with fail
  refine (insok_spec _ _ _ _ _ _).mono ?_
  rintro e w1 ⟨rfl, hb⟩
  rw [hok]
  have hb1 := hid (new_trans hb0.out hb)
  have hq1 := hid (hq0.out.below hb hq0.out.lt)
  clear hb hb0 hq0
  have x1 := hq1.out.cell
  go_wp2_with fail
  refine (text0_spec k A B N l _ (by omega) (by omega) (by omega) (by omega)).mono ?_
  rintro e w2 ⟨rfl, hb⟩
  have hb2 := hid (new_trans hb1.out hb)
  clear hb hb1 hq1 x1
  go_wp2
  go_ret2
  exact ⟨rfl, hb2.out⟩
theorem text_laid {W : World} (h : laidMetH Tryd.prog Rows.fnExactInstrTextRow.laid W) : Kinds W ∧ PowT W := by
  rw [MakeChecks.laidMetH_plain _ _ _ (by kernel_rfl)] at h
  obtain ⟨ps, ⟨g0, t0, cs0, f0, p0, q0, hg0, ht0, hv0, hd0, ⟨g1, t1, cs1, f1, p1, q1, hg1, ht1, hv1, hd1, ⟨g2, t2, cs2, f2, p2, q2, hg2, ht2, hv2, hd2, ⟨g3, t3, cs3, f3, p3, q3, hg3, ht3, hv3, hd3, _⟩, _⟩, _⟩, _⟩, _⟩ := h
  obtain rfl := Option.some.inj (gKinds.symm.trans hg3)
  obtain rfl := Option.some.inj (tKinds.symm.trans ht3)
  obtain rfl := Option.some.inj (gPowT.symm.trans hg2)
  obtain rfl := Option.some.inj (tPowT.symm.trans ht2)
  refine ⟨kinds_reads hv3 hd3, ?_⟩
  unfold PowT Lib.TabIs
  rw [hv2]
  have hd2' : DataW.trod (fun _ => ()) Tryd.prog W 0 (fun _ => true) false f2 132 cs2.toList = some (Lib.tabData .u64 Lib.pow10Tab, p2) := hd2
  have := Lib.cells_of_tab Tryd.underlying132 Tryd.underlying127 (by kernel_rfl) (by kernel_rfl) hd2'
  rw [← this]
end Go.Proofs.YtneagomkohoceaaDoor

/- What time the program says that an instruction takes. -/
namespace Go.Proofs.YtneagomkohoceaaDoor
open Go.ChangeShapes Go.WideShapes Go.ChangeAt Go.RowKit
set_option linter.unusedVariables false
set_option linter.unusedSimpArgs false

def reachP (o : Int) (pa pb : Bool) : Int :=
  if o = 1 then bitI pa + bitI pb else if o = 2 then bitI pa else if o = 5 ∨ o = 10 then bitI pb else if o = 7 ∨ o = 8 then 2 * bitI pa else if o = 9 then 2 * bitI pb
  else if o = 3 ∨ o = 4 ∨ o = 15 ∨ o = 16 then 1 else if o = 22 then 2 else 0
theorem reach_tab : ∀ k, k < 24 → ∀ pa pb : Bool, 3 * (whenM pa (kdA k) + whenM pb (kdB k)) + kdT k = 3 * reachP (k : Int) pa pb + 4 * bitI (((k : Int) == 17) || ((k : Int) == 18)) := by decide +kernel
theorem reach_bd : ∀ k, k < 24 → ∀ p : Bool, (0 ≤ whenM p (kdA k) ∧ whenM p (kdA k) ≤ 2) ∧ (0 ≤ whenM p (kdB k) ∧ whenM p (kdB k) ≤ 2) ∧ (0 ≤ kdT k ∧ kdT k ≤ 6) := by decide +kernel
theorem timeK (k : Nat) (hk : k < 24) (a b l : Int) : timeI (k : Int) a b l = 4 + 3 * (l - 1 + whenM (a == 6) (kdA k) + whenM (b == 6) (kdB k)) + kdT k := by
  have h := reach_tab k hk (a == 6) (b == 6)
  have e : reachI (k : Int) a b = reachP (k : Int) (a == 6) (b == 6) := rfl
  unfold timeI
  rw [e]
  omega
set_option maxRecDepth 100000 in
theorem time_impl (o a b n l : Int) (w : World) (hK : Kinds w) :
    Calls Tryd.prog 18 #[insV o a b n l] w fun e w' => e = .returned (time2 o a b n l) ∧ Below w.heap.size w w' := by
  have hB : Hid (∀ ob, Below w.heap.size w (w.alloc ob)) := fun ob => (Below.refl _ _).alloc (Nat.le_refl _) _
  have hb0 := hid (hB.out (.cells (insA o a b n l) 24))
  have hq0 := hid (Blk.new w (insA o a b n l) 24)
  have hk0 := hid (hK.below hb0.out)
  clear hK hB
  cases hok : okI o a b n l
  · have e : time2 o a b n l = .tuple #[.int .i64 0, .int .i64 1] := by unfold time2; rw [hok]; rfl
    rw [e]
    clear e
    go_enter Tryd.func18, Tryd.ntmps18
    go_wp2_with fail
    refine (insok_impl _ _ _ _ _ _ hk0.out).mono ?_
    rintro e w1 ⟨rfl, hb⟩
    rw [hok]
    have hb1 := hid (new_trans hb0.out hb)
    clear hb hb0 hq0 hk0
    go_wp2
    go_ret2
    exact ⟨rfl, hb1.out⟩
  have e : time2 o a b n l = .tuple #[.int .i64 (timeI o a b l), .int .i64 0] := by unfold time2; rw [hok]; rfl
  rw [e]
  clear e
  have hbo := okI_bd hok
  obtain ⟨k, rfl⟩ : ∃ k : Nat, o = (k : Int) := ⟨o.toNat, by omega⟩
  have hk : k < 24 := by omega
  have hl := hbo.2.2.2.2
  rw [timeK k hk]
  obtain ⟨⟨b1, _⟩⟩ : Nonempty ((0 ≤ whenM (a == 6) (kdA k) ∧ whenM (a == 6) (kdA k) ≤ 2) ∧ True) := ⟨(reach_bd k hk _).1, trivial⟩
  have b2 := (reach_bd k hk (b == 6)).2.1
  have b3 := (reach_bd k hk (b == 6)).2.2
  obtain ⟨pa, hpa⟩ : ∃ x, (a == 6) = x := ⟨_, rfl⟩
  obtain ⟨pb, hpb⟩ : ∃ x, (b == 6) = x := ⟨_, rfl⟩
  rw [hpa] at b1
  rw [hpb] at b2
  rw [hpa, hpb]
  obtain ⟨xa, hxa⟩ : ∃ x, whenM pa (kdA k) = x := ⟨_, rfl⟩
  obtain ⟨xb, hxb⟩ : ∃ x, whenM pb (kdB k) = x := ⟨_, rfl⟩
  rw [hxa] at b1 ⊢
  rw [hxb] at b2 ⊢
  obtain ⟨t, ht⟩ : ∃ x, kdT k = x := ⟨_, rfl⟩
  rw [ht] at b3 ⊢
  replace hxa := hid hxa
  replace hxb := hid hxb
  go_enter Tryd.func18, Tryd.ntmps18
  go_wp2_with fail
  refine (insok_impl _ _ _ _ _ _ hk0.out).mono ?_
  rintro e w1 ⟨rfl, hb⟩
  rw [hok]
  have hb1 := hid (new_trans hb0.out hb)
  have hq1 := hid (hq0.out.below hb hq0.out.lt)
  have hk1 := hid (hk0.out.below hb)
  clear hb hb0 hq0 hk0 hok hbo
  have x1 := hq1.out.cell
  have z1 := hq1.out.lt
  obtain ⟨y0, y1, y2, y3, y4⟩ := hk1.out k hk
  rw [ht] at y4
  go_wp2_with (go_at_call 32; refine (whenK_impl _ _ _).mono ?_; rintro e w' ⟨rfl, rfl⟩; first | rw [hxa.out] | rw [hxb.out])
  go_ret2
  exact ⟨rfl, hb1.out.alloc hb1.out.size _⟩
end Go.Proofs.YtneagomkohoceaaDoor
