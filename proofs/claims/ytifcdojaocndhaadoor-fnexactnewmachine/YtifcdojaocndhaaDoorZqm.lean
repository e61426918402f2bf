/- What the exact law of ReadTap does with an answer: it is read, marked, and the marks are looked for. -/
import Derived.Test.YtifcdojaocndhaaDoorM43
import Derived.Test.YtifcdojaocndhaaDoorM12
import Derived.Deep.DeepCutAuto
import Derived.Deep.RegionWith
namespace Go.Proofs.YtifcdojaocndhaaDoor
open Go.ChangeShapes Go.WideShapes Go.ChangeAt Go.RowKit
set_option linter.unusedVariables false
set_option linter.unusedSimpArgs false

def mtL : Nat → Nat → ByteArray → ByteArray
  | 0, _, o => o
  | f + 1, q, o => if q = 0 then o else mtL f (q / 10) (strOfNums [((48 + q % 10 : Nat) : Int)] ++ o)
theorem mtL_zero (f : Nat) (o : ByteArray) : mtL f 0 o = o := by
  cases f with
  | zero => rfl
  | succ f => exact if_pos rfl
/-- the text of a mark -/
def mt (k : Nat) : ByteArray := ⟨#[109]⟩ ++ mtL (k + 1) k ⟨#[]⟩
theorem mtL_size : ∀ (f q : Nat) (o : ByteArray), (mtL f q o).size ≤ o.size + q := by
  intro f
  induction f with
  | zero => intro q o; show o.size ≤ _; omega
  | succ f ih =>
    intro q o
    show (if q = 0 then o else mtL f (q / 10) (strOfNums [((48 + q % 10 : Nat) : Int)] ++ o)).size ≤ _
    split
    · omega
    · have := ih (q / 10) (strOfNums [((48 + q % 10 : Nat) : Int)] ++ o)
      rw [ByteArray.size_append, strOfNums_size] at this
      simp only [List.length_cons, List.length_nil] at this
      omega
set_option maxRecDepth 100000 in
set_option maxHeartbeats 2000000 in
theorem markText_any (k : Nat) (w : World) (h0 : 1 ≤ k) (h1 : k ≤ 4194304) : Calls Tryd.prog 42 #[.int .i64 (k : Int)] w fun e w' => e = .returned (.string (mt k)) ∧ Below w.heap.size w w' := by
  have hk0 : ¬ (k : Int) ≤ 0 := by omega
  obtain ⟨M, hM⟩ : ∃ M, mtL (k + 1) k ⟨#[]⟩ = M := ⟨_, rfl⟩
  have hMs : M.size ≤ 4194304 := by have := mtL_size (k + 1) k ⟨#[]⟩; rw [hM] at this; have e : (⟨#[]⟩ : ByteArray).size = 0 := rfl; omega
  have e : mt k = ⟨#[109]⟩ ++ M := by unfold mt; rw [hM]
  rw [e]
  have hz1 : (⟨#[109]⟩ : ByteArray).size = 1 := rfl
  have hcat : ¬ 9223372036854775807 < 1 + M.size := by omega
  replace hM := hid hM
  clear e
  go_enter Tryd.func42, Tryd.ntmps42
  go_wp2
  go_loopw [0, 3] (fun a b wr => ∃ (f q : Nat) (o : ByteArray), a = .int .i64 (q : Int) ∧ b = .string o ∧ mtL f q o = M ∧ q < f ∧ o.size + q ≤ 4194304 ∧ Below w.heap.size w wr) (fun a _ _ => (intOf a).toNat)
  case atStart => exact ⟨k + 1, k, ⟨#[]⟩, rfl, rfl, hM.out, by omega, by have e : (⟨#[]⟩ : ByteArray).size = 0 := rfl; omega, Below.refl _ _⟩
  case round =>
    obtain ⟨f, q, o, rfl, rfl, hM2, hf, hs, hW⟩ := hrel
    by_cases hq : q = 0
    · subst hq
      rw [mtL_zero] at hM2
      subst hM2
      replace hW := hid hW
      go_wp2
      go_ret
      exact ⟨rfl, hW.out⟩
    · obtain ⟨f, rfl⟩ : ∃ f', f = f' + 1 := ⟨f - 1, by omega⟩
      have hE : mtL (f + 1) q o = mtL f (q / 10) (strOfNums [((48 + q % 10 : Nat) : Int)] ++ o) := if_neg hq
      rw [hM2] at hE
      obtain ⟨d, hd⟩ : ∃ d : Nat, q % 10 = d := ⟨_, rfl⟩
      obtain ⟨r, hr⟩ : ∃ r : Nat, q / 10 = r := ⟨_, rfl⟩
      rw [hd, hr] at hE
      have hd2 : (q : Int) % 10 = (d : Int) := by omega
      have hr2 : (q : Int) / 10 = (r : Int) := by omega
      have hd3 : d < 10 := by omega
      have hr3 : r < q := by omega
      have hr4 : r ≤ 4194304 := by omega
      have hq9 : q ≤ 4194304 := by omega
      obtain ⟨x, hx⟩ : ∃ x : Int, 48 + (d : Int) = x := ⟨_, rfl⟩
      have hx1 : 0 ≤ x ∧ x ≤ 255 := by omega
      have hxe : ((48 + d : Nat) : Int) = x := by omega
      rw [hxe] at hE
      have hsn : (strOfNums [x]).size = 1 := strOfNums_size _
      have hcat2 : ¬ 9223372036854775807 < 1 + o.size := by omega
      have hq0 : (0 : Int) < (q : Int) := by omega
      have hn := Blk.new wr #[.int .u8 x] 5
      have hcv := conv1 hn
      have hWn := hid (hW.alloc hW.size (.cells #[.int .u8 x] 5))
      have hsz : Hid ((strOfNums [x] ++ o).size + r ≤ 4194304) := (by rw [ByteArray.size_append, hsn]; omega : (strOfNums [x] ++ o).size + r ≤ 4194304)
      replace hE := hid hE
      have hf2 : r < f := by omega
      clear hM2 hn hW hd hr hxe hs
      go_wp2
      go_roundw
      case rel => exact ⟨f, r, strOfNums [x] ++ o, by first | rfl | go_num, rfl, hE.out.symm, hf2, hsz.out, hWn.out⟩
      case measure => simp [intOf]; omega
theorem bkL_len (l : List (Int × ByteArray)) : (bkL l).length = l.length * 2 := by
  unfold bkL
  induction l with
  | nil => rfl
  | cons x l ih => simp only [List.flatMap_cons, List.length_append, List.length_cons, List.length_nil, ih]; omega
theorem bkL_at (l : List (Int × ByteArray)) : ∀ k, k < l.length → (bkL l)[k * 2]? = some (.int .i64 (l.getD k bkz).1) ∧ (bkL l)[k * 2 + 1]? = some (.string (l.getD k bkz).2) := by
  induction l with
  | nil => intro k hk; simp at hk
  | cons x l ih =>
    intro k hk
    have e : bkL (x :: l) = .int .i64 x.1 :: .string x.2 :: bkL l := rfl
    rw [e]
    cases k with
    | zero => exact ⟨rfl, rfl⟩
    | succ k =>
      have := ih k (by simpa using hk)
      rw [show (k + 1) * 2 = k * 2 + 1 + 1 by omega]
      simpa using this
/-- an answer of blocks: nothing, or a block of its own -/
def MkS (base : Nat) (W : World) (v : Value) (l : List (Int × ByteArray)) : Prop := (l = [] ∧ ∃ a cap, v = .slice a 0 cap) ∨ ∃ g cap, v = .slice (some ⟨g, 0, none⟩) l.length cap ∧ base ≤ g ∧ BkO W g l
theorem mks_of {base : Nat} {W : World} {v : Value} {l : List (Int × ByteArray)} (h : W.ownsRow base 75 2 v l.length (bkL l)) : MkS base W v l := by
  have h' := h
  obtain ⟨_, ⟨hv, h0⟩ | ⟨g, cap, cur, hv, hb, hh, hn, hm, hs, ht⟩⟩ := h
  · exact .inl ⟨List.eq_nil_of_length_eq_zero h0, none, 0, hv⟩
  · refine .inr ⟨g, cap, hv, hb, ?_, ?_, ?_⟩
    · intro k hk
      subst hv
      obtain ⟨c1, c2⟩ := bkL_at l k hk
      have q := h'.cells (g := g) rfl
      have p1 := q (k * 2) _ c1
      have p2 := q (k * 2 + 1) _ c2
      rw [add_plainZ, Nat.zero_add] at p1 p2
      exact ⟨p1, p2⟩
    · intro i
      simp [World.frozen?, hh]
    · exact (Array.getElem?_eq_some_iff.1 hh).1
theorem MkS.read {base : Nat} {W : World} {v : Value} {l : List (Int × ByteArray)} (h : MkS base W v l) : ∃ a cap, v = .slice a l.length cap ∧ BkR W a l := by
  rcases h with ⟨rfl, a, cap, rfl⟩ | ⟨g, cap, rfl, _, h⟩
  · exact ⟨a, cap, rfl, .inl rfl⟩
  · exact ⟨_, cap, rfl, h.read⟩
theorem MkS.below {base : Nat} {W W' : World} {v : Value} {l : List (Int × ByteArray)} (h : MkS base W v l) (hb : Below W.heap.size W W') : MkS base W' v l := by
  rcases h with h | ⟨g, cap, hv, hl, h⟩
  · exact .inl h
  · exact .inr ⟨g, cap, hv, hl, h.below hb⟩
def mkB (l : List (Int × ByteArray)) : Nat → List (Int × ByteArray)
  | 0 => l
  | k + 1 => (mkB l k).set k (((2 * k + 1 : Nat) : Int), mt (2 * k + 2))
theorem mkB_len (l : List (Int × ByteArray)) (k : Nat) : (mkB l k).length = l.length := by
  induction k with
  | zero => rfl
  | succ k ih => simp [mkB, ih]
theorem mkB_at (l : List (Int × ByteArray)) (k j : Nat) (hj : j < l.length) (hk : j < k) : (mkB l k).getD j bkz = (((2 * j + 1 : Nat) : Int), mt (2 * j + 2)) := by
  induction k with
  | zero => omega
  | succ k ih =>
    show ((mkB l k).set k (((2 * k + 1 : Nat) : Int), mt (2 * k + 2))).getD j bkz = _
    by_cases e : j = k
    · subst e
      rw [List.getD_eq_getElem?_getD, List.getElem?_set_self (by rw [mkB_len]; exact hj)]
      rfl
    · rw [List.getD_eq_getElem?_getD, List.getElem?_set_ne (fun e2 => e e2.symm), ← List.getD_eq_getElem?_getD, ih (by omega)]
/-- but for one block all is as it was -/
def Same1 (W W' : World) (g : Nat) : Prop := W.grownBy W' (some g)
theorem same1_below {W W' W'' : World} {g : Nat} (h : Same1 W W' g) (hb : Below W'.heap.size W' W'') : Same1 W W'' g :=
  ⟨hb.os.trans h.os, hb.tape.trans h.tape, hb.output.trans h.output, Nat.le_trans h.size hb.size, fun k hk hne => (hb.block k (Nat.lt_of_lt_of_le hk h.size)).trans (h.block k hk hne)⟩
theorem same1_set {W W' : World} {g i : Nat} {u : Value} (h : Same1 W W' g) : Same1 W (W'.setCell ⟨g, i, none⟩ u) g :=
  ⟨h.os, h.tape, h.output, by have := h.size; simpa [World.setCell] using this, fun k hk hne => (Below.heap_setCell _ _ _ _ (fun e => hne (by rw [e]))).trans (h.block k hk hne)⟩
theorem bko_set1 {W : World} {g : Nat} {l : List (Int × ByteArray)} (h : BkO W g l) (k : Nat) (hk : k < l.length) (f : Int) : BkO (W.setCell ⟨g, k * 2, none⟩ (.int .i64 f)) g (l.set k (f, (l.getD k bkz).2)) := by
  have o : ∀ (X : World) (i j : Nat) (u : Value), i ≠ j → (X.setCell ⟨g, j, none⟩ u).cell? ⟨g, i, none⟩ = X.cell? ⟨g, i, none⟩ := fun X i j u hne => World.cell?_setCell_other _ _ _ _ (by intro e; injection e with _ e2 _; exact hne e2.symm)
  refine ⟨fun j hj => ?_, fun i => by rw [World.frozen?_setCell]; exact h.fro i, by have := h.lt; simpa [World.setCell] using this⟩
  rw [List.length_set] at hj
  obtain ⟨c1, c2⟩ := h.cell j hj
  by_cases e : j = k
  · subst e
    have hg : (l.set j (f, (l.getD j bkz).2)).getD j bkz = (f, (l.getD j bkz).2) := by rw [List.getD_eq_getElem?_getD, List.getElem?_set_self hj]; rfl
    rw [hg]
    refine ⟨World.cell?_setCell_same' _ _ _ (by rw [c1]; rfl), ?_⟩
    rw [o _ _ _ _ (by omega)]
    exact c2
  · have hg : (l.set k (f, (l.getD k bkz).2)).getD j bkz = l.getD j bkz := by rw [List.getD_eq_getElem?_getD, List.getElem?_set_ne (fun e2 => e e2.symm), ← List.getD_eq_getElem?_getD]
    rw [hg, o _ _ _ _ (by omega), o _ _ _ _ (by omega)]
    exact ⟨c1, c2⟩
theorem bko_set2 {W : World} {g : Nat} {l : List (Int × ByteArray)} (h : BkO W g l) (k : Nat) (hk : k < l.length) (s : ByteArray) : BkO (W.setCell ⟨g, k * 2 + 1, none⟩ (.string s)) g (l.set k ((l.getD k bkz).1, s)) := by
  have o : ∀ (X : World) (i j : Nat) (u : Value), i ≠ j → (X.setCell ⟨g, j, none⟩ u).cell? ⟨g, i, none⟩ = X.cell? ⟨g, i, none⟩ := fun X i j u hne => World.cell?_setCell_other _ _ _ _ (by intro e; injection e with _ e2 _; exact hne e2.symm)
  refine ⟨fun j hj => ?_, fun i => by rw [World.frozen?_setCell]; exact h.fro i, by have := h.lt; simpa [World.setCell] using this⟩
  rw [List.length_set] at hj
  obtain ⟨c1, c2⟩ := h.cell j hj
  by_cases e : j = k
  · subst e
    have hg : (l.set j ((l.getD j bkz).1, s)).getD j bkz = ((l.getD j bkz).1, s) := by rw [List.getD_eq_getElem?_getD, List.getElem?_set_self hj]; rfl
    rw [hg]
    refine ⟨?_, World.cell?_setCell_same' _ _ _ (by rw [c2]; rfl)⟩
    rw [o _ _ _ _ (by omega)]
    exact c1
  · have hg : (l.set k ((l.getD k bkz).1, s)).getD j bkz = l.getD j bkz := by rw [List.getD_eq_getElem?_getD, List.getElem?_set_ne (fun e2 => e e2.symm), ← List.getD_eq_getElem?_getD]
    rw [hg, o _ _ _ _ (by omega), o _ _ _ _ (by omega)]
    exact ⟨c1, c2⟩
set_option maxRecDepth 100000 in
set_option maxHeartbeats 4000000 in
theorem markb (g cap : Nat) (l : List (Int × ByteArray)) (w : World) (h : BkO w g l) (hl : l.length ≤ 1048576) :
    Calls Tryd.prog 13 #[.slice (some ⟨g, 0, none⟩) l.length cap, .int .i64 1] w fun e w' => e = .returned (.int .i64 ((2 * l.length + 1 : Nat) : Int)) ∧ BkO w' g (mkB l l.length) ∧ Same1 w w' g := by
  have h0 := hid h
  clear h
  go_enter Tryd.func13, Tryd.ntmps13
  go_wp2
  go_loopw [1, 5] (fun q i wr => ∃ k : Nat, k ≤ l.length ∧ i = .int .i64 k ∧ q = .int .i64 ((2 * k + 1 : Nat) : Int) ∧ BkO wr g (mkB l k) ∧ Same1 w wr g) (fun _ i _ => l.length - (intOf i).toNat)
  case atStart => exact ⟨0, by omega, rfl, rfl, h0.out, World.grownBy.refl _ _⟩
  case round =>
    obtain ⟨k, hk, rfl, rfl, hM, hS⟩ := hrel
    by_cases hlt : k < l.length
    · have hlen : k < (mkB l k).length := by rw [mkB_len]; exact hlt
      have hE : Hid (mkB l (k + 1) = (mkB l k).set k (((2 * k + 1 : Nat) : Int), mt (2 * k + 2))) := rfl
      have hT := hid (fun W => markText_any (2 * k + 2) W (by omega) (by omega))
      obtain ⟨q, hq⟩ : ∃ q : Nat, 2 * k + 1 = q := ⟨_, rfl⟩
      have hq2 : 2 * k + 2 = q + 1 := by omega
      rw [hq2] at hT hE
      rw [hq] at hE ⊢
      have hTi : Hid (∀ W, Calls Tryd.prog 42 #[.int .i64 ((q : Int) + 1)] W fun e w' => e = .returned (.string (mt (q + 1))) ∧ Below W.heap.size W w') := by
        have hh := hT.out
        rw [show ((q + 1 : Nat) : Int) = (q : Int) + 1 by omega] at hh
        exact hh
      generalize mt (q + 1) = X at *
      generalize mkB l k = L0 at *
      have hq5 : q ≤ 2097153 := by omega
      obtain ⟨y1, y2⟩ := hM.cell k hlen
      have yf := hM.fro
      have yl := hM.lt
      have hM1 := hid (bko_set1 hM k hlen (q : Int))
      have hS1 := hid (same1_set (i := k * 2) (u := .int .i64 (q : Int)) hS)
      have hfin : Hid (∀ w2, Below (wr.setCell ⟨g, k * 2, none⟩ (.int .i64 (q : Int))).heap.size (wr.setCell ⟨g, k * 2, none⟩ (.int .i64 (q : Int))) w2 → (∃ s9, w2.cell? ⟨g, k * 2 + 1, none⟩ = some (.string s9)) ∧ (∀ i, w2.frozen? ⟨g, i, none⟩ = false) ∧ g < w2.heap.size ∧ BkO (w2.setCell ⟨g, k * 2 + 1, none⟩ (.string X)) g (L0.set k ((q : Int), X)) ∧ Same1 w (w2.setCell ⟨g, k * 2 + 1, none⟩ (.string X)) g) := by
        intro w2 hb
        have hM2 := hM1.out.below hb
        have hlen2 : k < (L0.set k ((q : Int), (L0.getD k bkz).2)).length := by rw [List.length_set]; exact hlen
        have hgd : (L0.set k ((q : Int), (L0.getD k bkz).2)).getD k bkz = ((q : Int), (L0.getD k bkz).2) := by rw [List.getD_eq_getElem?_getD, List.getElem?_set_self hlen]; rfl
        have hM3 := bko_set2 hM2 k hlen2 X
        rw [hgd, List.set_set] at hM3
        exact ⟨⟨_, (hM2.cell k hlen2).2⟩, hM2.fro, hM2.lt, hM3, same1_set (same1_below hS1.out hb)⟩
      generalize (L0.getD k bkz).1 = u1 at *
      generalize (L0.getD k bkz).2 = u2 at *
      have hq6 : ((2 * (k + 1) + 1 : Nat) : Int) = (q : Int) + 1 + 1 := by omega
      replace hq6 := hid hq6
      clear hM hS hq hq2 hT
      go_upto_region 6 with fail
      obtain ⟨W1, hW1⟩ : ∃ W1, wr.setCell ⟨g, k * 2, none⟩ (.int .i64 (q : Int)) = W1 := ⟨_, rfl⟩
      rw [hW1] at hfin hM1 hS1 ⊢
      clear hW1 y1 y2 yf yl
      go_wp2_with fail
      refine (hTi.out _).mono ?_
      rintro e w2 ⟨rfl, hb2⟩
      obtain ⟨⟨s9, x9⟩, f9, l9, hM3, hS3⟩ := hfin.out _ hb2
      replace hM3 := hid hM3
      replace hS3 := hid hS3
      clear hb2 hfin hTi hM1 hS1
      go_wp2
      go_roundw
      case rel => exact ⟨k + 1, by omega, by go_num, by rw [hq6.out], by rw [hE.out]; exact hM3.out, hS3.out⟩
      case measure => simp [intOf]; omega
    · obtain rfl : k = l.length := by omega
      replace hM := hid hM
      replace hS := hid hS
      go_wp2
      go_ret
      exact ⟨rfl, hM.out, hS.out⟩
theorem markb0 (a : Option Addr) (cap : Nat) (w : World) : Calls Tryd.prog 13 #[.slice a 0 cap, .int .i64 1] w fun e w' => e = .returned (.int .i64 1) ∧ w' = w := by
  go_enter Tryd.func13, Tryd.ntmps13
  go_wp2
  refine wp_loop_rounds 1 ?_
  rw [rounds_succ]
  go_wp2
  go_ret
  exact ⟨rfl, rfl⟩
theorem rdL_len (t : ByteArray) : ∀ (f : Nat) (a : Int) (acc : List (Int × ByteArray)), acc.length ≤ 6 → (rdL t f a acc).1.length ≤ 6 := by
  intro f
  induction f with
  | zero => intro a acc h; exact h
  | succ f ih =>
    intro a acc h
    have e : rdL t (f + 1) a acc = if a < (t.size : Int) then (if (tkB t a).2 ≠ 0 then ([], (tkB t a).2) else if acc.length = 6 then ([], 6) else rdL t f (tkB t a).1.1.2 (acc ++ [(tkB t a).1.2])) else (acc, 0) := rfl
    rw [e]
    split
    · split
      · exact Nat.zero_le _
      · split
        · exact Nat.zero_le _
        · exact ih _ _ (by rw [List.length_append]; simp; omega)
    · exact h
theorem rd2_len (t : ByteArray) : (rd2 t).1.length ≤ 6 := by
  unfold rd2
  split
  · exact Nat.zero_le _
  · exact rdL_len _ _ _ _ (Nat.zero_le _)
end Go.Proofs.YtifcdojaocndhaaDoor
