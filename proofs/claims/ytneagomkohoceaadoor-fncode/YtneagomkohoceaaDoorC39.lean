/- What the law of code wants of a drawn instruction, in one. -/
import Derived.Test.YtneagomkohoceaaDoorTzdc
import Derived.Test.YtneagomkohoceaaDoorTycc
import Derived.Test.YtneagomkohoceaaDoorC38
import Derived.Test.YtneagomkohoceaaDoorKec
namespace Go.Proofs.YtneagomkohoceaaDoor
open Go.ChangeShapes Go.WideShapes Go.ChangeAt Go.RowKit
set_option linter.unusedVariables false
set_option linter.unusedSimpArgs false

theorem dec2_two {e z : Int} (h0 : 0 ≤ e) (h1 : e ≤ 255) (z0 : 0 ≤ z) (z1 : z ≤ 255) : dec2 [e, z] = .tuple #[dcdV e z, .int .i64 0] := by
  have hC : decC [e, z] = 0 := by
    have q0 : inB e 0 255 = true := by unfold inB; simp; omega
    have q1 : inB z 0 255 = true := by unfold inB; simp; omega
    simp [decC, bytesB, q0, q1]
  unfold dec2
  rw [if_pos hC]
  rfl
theorem code_facts {x y : Int} (h0 : 0 ≤ x) (h1 : x ≤ 255) (h2 : 0 ≤ y) (h3 : y ≤ 255) : ∃ (o a b n l t : Int) (T : ByteArray) (zs : List Int),
    dcdV x y = insV o a b n l ∧ okI o a b n l = true ∧ okIc o a b n l = 0 ∧ encR o a b n l = zs ∧ (zs.length : Int) = l ∧ (zs.length = 1 ∨ zs.length = 2) ∧ (∀ z ∈ zs, 0 ≤ z ∧ z ≤ 255) ∧
    text2 o a b n l = .tuple #[.string T, .int .i64 0] ∧ T.size ≤ 100 ∧ RdE (spcT T) (.returned (.tuple #[insV o a b n l, .int .i64 0])) ∧ lc2 zs = ([⟨#[48, 48, 32]⟩ ++ T], 0) ∧
    (∀ z, 0 ≤ z → z ≤ 255 → dec2 ((zs ++ [z]).take 2) = .tuple #[insV o a b n l, .int .i64 0]) ∧ time2 o a b n l = .tuple #[.int .i64 t, .int .i64 0] ∧ 4 ≤ t := by
  have hok := dec_ok h0 h1 h2 h3
  obtain ⟨e0, e1, ⟨p0, p1⟩, ⟨p2, p3⟩, hE, hB⟩ := enc_back h0 h1 h2 h3
  have hlp := decL_pos x
  have hbd := okI_bd hok
  refine ⟨decO x, decA x, decB x y, decN x y, decL x, timeI (decO x) (decA x) (decB x y) (decL x), insB x y, encL (decO x) (decA x) (decB x y) (decN x y) (decL x), rfl, hok, by unfold okIc; rw [if_pos hok], by unfold encR; rw [if_pos hok], ?_, ?_, ?_, ?_, insB_size h0 h1 h2 h3, read_back h0 h1 h2 h3, lc_one h0 h1 h2 h3, ?_, by unfold time2; rw [if_pos hok], ?_⟩
  · rw [hE]; split <;> simp <;> omega
  · rw [hE]; split <;> simp
  · rw [hE]; intro z hz; split at hz <;> simp at hz
    · rcases hz with rfl | rfl <;> omega
    · subst hz; omega
  · unfold text2; rw [if_pos hok]; rfl
  · intro z z0 z1
    rw [hE]
    by_cases hl : decL x = 2
    · rw [if_pos hl]
      obtain ⟨q, _, _⟩ := hB e1 p2 p3 (fun _ => rfl)
      show dec2 [e0, e1] = _
      rw [dec2_two p0 p1 p2 p3, q]
    · rw [if_neg hl]
      obtain ⟨q, _, _⟩ := hB z z0 z1 (fun e => absurd e hl)
      show dec2 [e0, z] = _
      rw [dec2_two p0 p1 z0 z1, q]
  · have hr : 0 ≤ reachI (decO x) (decA x) (decB x y) := by unfold reachI; split <;> first | omega | (unfold bitI; split <;> omega) | skip
    have : 0 ≤ bitI ((decO x == 17) || (decO x == 18)) := by unfold bitI; split <;> omega
    unfold timeI
    omega
theorem holdC {p : Prop} (h : Hid p) : p := h.out
theorem rowC_of_own {W : World} {base : Nat} {g n cap k c : Nat} {L : List Int} (h : W.ownsRow base 3 1 (.slice (some ⟨g, 0, none⟩) n cap) n (L.map (Value.int .i64))) (hn : L.length = n) (hk : k ≤ n) : RowR W (.slice (some ⟨g, 0, none⟩) k c) (L.take k) := by
  have hl : (L.take k).length = k := by rw [List.length_take]; omega
  refine ⟨some ⟨g, 0, none⟩, c, by rw [hl], .inr ⟨g, 0, rfl, fun i hi => ?_⟩⟩
  rw [hl] at hi
  rw [Nat.zero_add, h.cellAt i (by omega)]
  simp [List.getD_eq_getElem?_getD, List.getElem?_eq_getElem (show i < L.length by omega), List.getElem?_take, hi]
theorem capC_of_own {W : World} {base : Nat} {g n cap : Nat} {xs : List Value} (h : W.ownsRow base 3 1 (.slice (some ⟨g, 0, none⟩) n cap) n xs) : n ≤ cap ∧ cap ≤ maxLen := by
  obtain ⟨_, ⟨h0, _⟩ | ⟨g', cap', cur, e, _, _, h1, h2, _⟩⟩ := h
  · cases h0
  · cases e; exact ⟨h1, h2⟩
theorem newsC {W : World} {b off cap : Nat} {zs : List Int} (h : RowR W (.slice (some ⟨b, off, none⟩) zs.length cap) zs) : ∀ j u, (zs.map (Value.int .i64))[j]? = some u → W.cell? ((⟨b, off, none⟩ : Addr).add j) = some u := fun j u hu => by
  rw [List.getElem?_map] at hu
  by_cases hj : j < zs.length
  · rw [List.getElem?_eq_getElem hj] at hu
    simp only [Option.map_some, Option.some.injEq] at hu
    obtain ⟨a', cap', e, h0 | ⟨b', off', e2, hc⟩⟩ := h
    · subst h0; simp at hj
    · cases e
      cases e2
      have ea : ((⟨b, off, none⟩ : Addr).add j) = ⟨b, off + j, none⟩ := by unfold Addr.add; split <;> simp_all
      rw [ea, hc j hj, ← hu, List.getD_eq_getElem?_getD, List.getElem?_eq_getElem hj]
      rfl
  · rw [List.getElem?_eq_none (by omega)] at hu
    cases hu
theorem oneC {zs : List Int} : ∀ u, u ∈ zs.map (Value.int .i64) → u.oneCell' = true := fun u hu => by
  obtain ⟨x, _, rfl⟩ := List.mem_map.1 hu
  rfl
theorem rowC_some {W : World} {a : Option Addr} {cap : Nat} {zs : List Int} (h : RowR W (.slice a zs.length cap) zs) (h0 : zs.length = 1 ∨ zs.length = 2) : ∃ b off, a = some ⟨b, off, none⟩ := by
  obtain ⟨a', cap', e, h1 | ⟨b', off', e2, hc⟩⟩ := h
  · subst h1; simp at h0
  · cases e; exact ⟨b', off', e2⟩
/-- the law's state: the drawn instruction in its box -/
structure Cd (w W : World) (X : Nat) (o a b n l : Int) : Prop where
  bel : Below w.heap.size w W
  box : Blk W X (insA o a b n l)
  kd : Kinds W
  pw : PowT W
theorem Cd.below {w W W' : World} {X : Nat} {o a b n l : Int} (h : Cd w W X o a b n l) (hb : Below W.heap.size W W') : Cd w W' X o a b n l :=
  ⟨new_trans h.bel hb, h.box.below hb h.box.lt, h.kd.below hb, h.pw.up hb⟩
end Go.Proofs.YtneagomkohoceaaDoor

/- What the program decodes of a list. -/
namespace Go.Proofs.YtneagomkohoceaaDoor
open Go.ChangeShapes Go.WideShapes Go.ChangeAt Go.RowKit
set_option linter.unusedVariables false
set_option linter.unusedSimpArgs false

theorem isbyt_impl (a : Int) (w : World) : Calls Tryd.prog 46 #[.int .i64 a] w fun e w' => e = .returned (.bool (inB a 0 255)) ∧ w' = w := by
  go_enter Tryd.func46, Tryd.ntmps46
  go_wp2
  all_goals go_ret
  all_goals exact ⟨ret_bool (by rw [Bool.eq_iff_iff]; simp [inB]; try omega), rfl⟩
theorem bytes2_impl (a b : Int) (w : World) : Calls Tryd.prog 35 #[.int .i64 a, .int .i64 b] w fun e w' => e = .returned (.bool (inB a 0 255 && inB b 0 255)) ∧ w' = w := by
  cases h1 : inB a 0 255
  all_goals
    go_enter Tryd.func35, Tryd.ntmps35
    go_wp2_with (go_at_call 46; refine (isbyt_impl _ _).mono ?_; rintro e w' ⟨rfl, rfl⟩)
    go_ret
    exact ⟨ret_bool (by simp), rfl⟩
theorem bytes2_eq {zs : List Int} (h2 : zs.length = 2) : bytesB zs 2 = (inB (zs.getD 0 0) 0 255 && inB (zs.getD 1 0) 0 255) := by
  match zs, h2 with
  | [x, y], _ => simp [bytesB, inB]
set_option maxRecDepth 100000 in
set_option maxHeartbeats 2000000 in
theorem dec_impl (v : Value) (zs : List Int) (w : World) (hK : Kinds w) (h : RowR w v zs) (hl : zs.length ≤ 1000000000) :
    Calls Tryd.prog 13 #[v] w fun e w' => e = .returned (dec2 zs) ∧ Below w.heap.size w w' := by
  obtain ⟨a, cap, rfl, _⟩ := id h
  have hB : Hid (∀ o, Below w.heap.size w (w.alloc o)) := fun o => (Below.refl _ _).alloc (Nat.le_refl _) _
  have hBn : Hid (∀ o n, Below w.heap.size w ((w.alloc o).drewN n)) := fun o n => (hB.out o).trans (belD _ _ _)
  have hR : Hid (∀ o, RowR (w.alloc o) (.slice a zs.length cap) zs) := fun o => h.below (hB.out o)
  by_cases h1 : 4096 < zs.length
  · have e1 : decC zs = 2 := by unfold decC; rw [if_pos h1]
    have e : dec2 zs = .tuple #[insV 0 0 0 0 0, .int .i64 2] := by unfold dec2; rw [e1]; rfl
    rw [e]
    clear e e1 h
    go_enter Tryd.func13, Tryd.ntmps13
    go_wp2
    refine bodyPost_ret (v := .tuple #[insV 0 0 0 0 0, .int .i64 2]) (by simp [results, Tryd.results13, go_sem]) rfl ⟨rfl, hB.out _⟩
  by_cases h2 : zs.length = 2
  rotate_left
  · have e1 : decC zs = 8 := by unfold decC; rw [if_neg h1, if_neg h2]
    have e : dec2 zs = .tuple #[insV 0 0 0 0 0, .int .i64 8] := by unfold dec2; rw [e1]; rfl
    have h2' : ((zs.length : Int) != 2) = true := by simp; omega
    rw [e]
    clear e e1 h h2
    go_enter Tryd.func13, Tryd.ntmps13
    go_wp2
    refine bodyPost_ret (v := .tuple #[insV 0 0 0 0 0, .int .i64 8]) (by simp [results, Tryd.results13, go_sem]) rfl ⟨rfl, hB.out _⟩
  have h2' : ((zs.length : Int) != 2) = false := by simp; omega
  have h1' : decide ((4096 : Int) < (zs.length : Int)) = false := by simp; omega
  obtain ⟨b, off, ea, c0⟩ := row_some (hR.out (.cells #[.int .i64 0, .int .i64 0, .int .i64 0, .int .i64 0, .int .i64 0] 24)).disj (k := 0) (by omega)
  obtain ⟨b', off', ea', c1⟩ := row_some (hR.out (.cells #[.int .i64 0, .int .i64 0, .int .i64 0, .int .i64 0, .int .i64 0] 24)).disj (k := 1) (by omega)
  subst ea
  injection ea' with ea'
  injection ea' with e1' e2'
  subst e1' e2'
  rw [Nat.add_zero] at c0
  have h2n := hid h2
  have hb2 := bytes2_eq h2
  have hx : (1 : Int) < (zs.length : Int) := by rw [h2n.out]; decide
  have hx0 : (0 : Int) < (zs.length : Int) := by rw [h2n.out]; decide
  have hC : decC zs = if bytesB zs 2 = true then 0 else 4 := by unfold decC; rw [if_neg h1, if_pos h2]
  have hD : dec2 zs = if decC zs = 0 then .tuple #[dcdV (zs.getD 0 0) (zs.getD 1 0), .int .i64 0] else .tuple #[insV 0 0 0 0 0, .int .i64 (decC zs)] := rfl
  rw [hb2] at hC
  generalize zs.getD 0 0 = x at *
  generalize zs.getD 1 0 = y at *
  clear h h2 hb2
  have S0 : Hid (∀ n, Blk ((w.alloc (.cells #[.int .i64 0, .int .i64 0, .int .i64 0, .int .i64 0, .int .i64 0] 24)).drewN n).drew w.heap.size #[.int .i64 0, .int .i64 0, .int .i64 0, .int .i64 0, .int .i64 0]) := fun n => Blk.new w _ _
  have hK0 : Hid (∀ n, Kinds ((w.alloc (.cells #[.int .i64 0, .int .i64 0, .int .i64 0, .int .i64 0, .int .i64 0] 24)).drewN n).drew) := fun n => hK.below (hBn.out _ n).drew
  have hBd : Hid (∀ n, Below w.heap.size w ((w.alloc (.cells #[.int .i64 0, .int .i64 0, .int .i64 0, .int .i64 0, .int .i64 0] 24)).drewN n).drew) := fun n => (hBn.out _ n).drew
  clear hK hR
  cases hb : (inB x 0 255 && inB y 0 255)
  · have e : dec2 zs = .tuple #[insV 0 0 0 0 0, .int .i64 4] := by rw [hD, hC, hb]; rfl
    rw [e]
    clear e hC hD
    go_enter Tryd.func13, Tryd.ntmps13
    go_upto_region 5 with fail
    go_quiet ((go_at_call 35; exact Calls.quiet_of_same ((bytes2_impl _ _ _).mono (fun e w' h => by rw [hb] at h; exact h))))
    go_wp2
    refine bodyPost_ret (v := .tuple #[insV 0 0 0 0 0, .int .i64 4]) (by simp [results, Tryd.results13, go_sem]) rfl ⟨rfl, ?_⟩
    iterate 5 refine Below.setCell ?_ (by first | omega | (simp; done) | (simp; omega)) _
    exact hBn.out _ _
  · have e : dec2 zs = .tuple #[dcdV x y, .int .i64 0] := by rw [hD, hC, hb]; rfl
    have bb : (0 ≤ x ∧ x ≤ 255) ∧ (0 ≤ y ∧ y ≤ 255) := by simpa [inB] using hb
    obtain ⟨X, rfl⟩ : ∃ X : Nat, x = (X : Int) := ⟨x.toNat, by omega⟩
    obtain ⟨Y, rfl⟩ : ∃ Y : Nat, y = (Y : Int) := ⟨y.toNat, by omega⟩
    rw [e]
    clear e hC hD
    go_enter Tryd.func13, Tryd.ntmps13
    go_upto_region 5 with fail
    go_quiet ((go_at_call 35; exact Calls.quiet_of_same ((bytes2_impl _ _ _).mono (fun e w' h => by rw [hb] at h; exact h))))
    go_upto_region 7 with fail
    go_region_with ((go_at_call 36; refine (dec0_impl X Y _ (hK0.out _) (by omega) (by omega)).mono ?_; rintro e w2 ⟨rfl, hb2⟩; have q2 := (S0.out _).below hb2 (S0.out _).lt; have x2 := q2.cell; have f2 := q2.frozen; have hbw := hid (new_trans (hBd.out _) hb2); clear hb2 q2))
    all_goals
      go_wp2
      refine bodyPost_ret (v := .tuple #[dcdV X Y, .int .i64 0]) (by simp [results, Tryd.results13, go_sem, x2]) rfl ⟨rfl, ?_⟩
      iterate 5 refine Below.setCell ?_ (by first | omega | (simp; done) | (simp; omega)) _
      exact hbw.out
end Go.Proofs.YtneagomkohoceaaDoor
