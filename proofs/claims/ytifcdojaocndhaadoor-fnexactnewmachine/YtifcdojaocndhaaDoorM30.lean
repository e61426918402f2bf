/- A machine that an answer owns, as one thing; how a law marks it and finds it so. -/
import Derived.Test.YtifcdojaocndhaaDoorM29
import Derived.Test.YtifcdojaocndhaaDoorDlm
import Derived.Test.YtifcdojaocndhaaDoorMem
namespace Go.Proofs.YtifcdojaocndhaaDoor
open Go.ChangeShapes Go.WideShapes Go.ChangeAt Go.RowKit Go.Joins
set_option linter.unusedVariables false
set_option linter.unusedSimpArgs false

theorem EvO.kept {W W' : World} {g : Nat} {l : List Evt} (h : EvO W g l) (e : W'.heap[g]? = W.heap[g]?) : EvO W' g l :=
  ⟨fun k hk => ⟨(World.cell?_of_block (a := ⟨g, k * 3, none⟩) e).trans (h.cell k hk).1, (World.cell?_of_block (a := ⟨g, k * 3 + 1, none⟩) e).trans (h.cell k hk).2.1, (World.cell?_of_block (a := ⟨g, k * 3 + 2, none⟩) e).trans (h.cell k hk).2.2⟩, fun i => by
    have := h.fro i
    unfold World.frozen? at this ⊢
    rw [e]
    exact this, by
    have h1 := h.lt
    have : W.heap[g]? = some W.heap[g] := Array.getElem?_eq_getElem h1
    rw [this] at e
    exact (Array.getElem?_eq_some_iff.1 e).1⟩
/-- a list of events in a block of its own -/
def OwnE (base : Nat) (W : World) (v : Value) (l : List Evt) : Prop := (l = [] ∧ ∃ a c, v = .slice a 0 c) ∨ ∃ g c, base ≤ g ∧ v = .slice (some ⟨g, 0, none⟩) l.length c ∧ EvO W g l
theorem OwnE.read {base : Nat} {W : World} {v : Value} {l : List Evt} (h : OwnE base W v l) : EvR W v l := by
  rcases h with ⟨rfl, a, c, rfl⟩ | ⟨g, c, _, rfl, h⟩
  · exact ⟨a, c, rfl, .inl rfl⟩
  · exact h.read
theorem OwnE.weak {base : Nat} {W : World} {v : Value} {l : List Evt} (h : OwnE base W v l) : OwnE 0 W v l := by
  rcases h with h | ⟨g, c, _, h⟩
  · exact .inl h
  · exact .inr ⟨g, c, Nat.zero_le _, h⟩
theorem OwnE.dom {base : Nat} {W : World} {v : Value} {l : List Evt} (h : OwnE base W v l) {b : Nat} (hb : rdom v b) : base ≤ b ∧ b < W.heap.size := by
  obtain ⟨n, c, rfl⟩ := hb
  rcases h with ⟨_, a, c', e⟩ | ⟨g, c', hg, e, h⟩
  · injection e with _ e2 _
    omega
  · injection e with e1 e2 e3
    injection e1 with e1
    injection e1 with e1 _ _
    subst e1
    exact ⟨hg, h.lt⟩
theorem OwnE.kept {base : Nat} {W W' : World} {v : Value} {l : List Evt} (h : OwnE base W v l) (hk : ∀ b, rdom v b → W'.heap[b]? = W.heap[b]?) : OwnE base W' v l := by
  rcases h with h | ⟨g, c, hg, e, h⟩
  · exact .inl h
  · by_cases h0 : 0 < l.length
    · exact .inr ⟨g, c, hg, e, h.kept (hk g ⟨l.length - 1, c, by rw [e]; congr 1; omega⟩)⟩
    · have : l = [] := List.length_eq_zero_iff.1 (by omega)
      subst this
      exact .inl ⟨rfl, _, c, e⟩
theorem OwnE.below {base : Nat} {W W' : World} {v : Value} {l : List Evt} (h : OwnE base W v l) (hb : Below W.heap.size W W') : OwnE base W' v l := h.kept fun b hd => hb.block b (h.dom hd).2
/-- a machine all of whose memory is its own -/
structure MacO (lo hi : Nat) (x : Mc) (vr vm vd ve : Value) (W : World) : Prop where
  m : MemO W lo hi (memV vr vm x.m.page x.m.screen x.m.locked) x.m
  d : OwnI 0 W vd x.d.pulses
  e : OwnE 0 W ve x.ev
  h : hi ≤ W.heap.size
  a1 : ∀ b, rdom vd b → ¬ (lo ≤ b ∧ b < hi)
  a2 : ∀ b, rdom ve b → ¬ (lo ≤ b ∧ b < hi)
  a3 : ∀ b, rdom vd b → ¬ rdom ve b
def mcDom (lo hi : Nat) (vd ve : Value) (b : Nat) : Prop := (lo ≤ b ∧ b < hi) ∨ rdom vd b ∨ rdom ve b
abbrev tMac (lo hi : Nat) (x : Mc) (vr vm vd ve : Value) : Thing := ⟨mcDom lo hi vd ve, MacO lo hi x vr vm vd ve⟩
theorem MacO.read {lo hi : Nat} {x : Mc} {vr vm vd ve : Value} {W : World} (h : MacO lo hi x vr vm vd ve W) : MacB W (mcV x vr vm vd ve) x := ⟨vr, vm, vd, ve, rfl, h.m.reads, OwnI.read h.d, h.e.read⟩
theorem MacO.kept {lo hi : Nat} {x : Mc} {vr vm vd ve : Value} {W W' : World} (h : MacO lo hi x vr vm vd ve W) (hs : hi ≤ W'.heap.size) (hk : ∀ b, mcDom lo hi vd ve b → W'.heap[b]? = W.heap[b]?) : MacO lo hi x vr vm vd ve W' :=
  ⟨h.m.kept (fun b h0 h1 => hk b (.inl ⟨h0, h1⟩)), h.d.kept (fun b hb => hk b (.inr (.inl hb))), h.e.kept (fun b hb => hk b (.inr (.inr hb))), hs, h.a1, h.a2, h.a3⟩
theorem sits_mac {lo hi : Nat} {x : Mc} {vr vm vd ve : Value} {W : World} (h : MacO lo hi x vr vm vd ve W) (hz : lo < hi) : Sits W (tMac lo hi x vr vm vd ve) :=
  ⟨h, fun b hb => by
    rcases hb with hb | hb | hb
    · exact Nat.lt_of_lt_of_le hb.2 h.h
    · exact (h.d.dom hb).2.lt
    · exact (h.e.dom hb).2, fun W' hk => by
    refine h.kept ?_ hk
    have e := hk (hi - 1) (.inl ⟨by omega, by omega⟩)
    have h1 : hi - 1 < W.heap.size := by have := h.h; omega
    rw [Array.getElem?_eq_getElem h1] at e
    have := (Array.getElem?_eq_some_iff.1 e).1
    omega⟩
/-- an answer: a machine in blocks that were made since w -/
structure NewMac (w w' : World) (lo hi : Nat) (x : Mc) (vr vm vd ve : Value) : Prop where
  o : MacO lo hi x vr vm vd ve w'
  z : lo < hi
  l : w.heap.size ≤ lo
  d : ∀ b, rdom vd b → w.heap.size ≤ b
  e : ∀ b, rdom ve b → w.heap.size ≤ b
  bel : Below w.heap.size w w'
theorem StD.mac {w0 w w' : World} {L : List Thing} {lo hi : Nat} {x : Mc} {vr vm vd ve : Value} (h : StD w0 w L) (hn : NewMac w w' lo hi x vr vm vd ve) : StD w0 w' (tMac lo hi x vr vm vd ve :: L) := by
  have hf : ∀ b, mcDom lo hi vd ve b → w.heap.size ≤ b := fun b hb => by
    rcases hb with hb | hb | hb
    · exact Nat.le_trans hn.l hb.1
    · exact hn.d b hb
    · exact hn.e b hb
  exact ⟨h.sts.push hn.bel (sits_mac hn.o hn.z) hf, new_trans h.bel hn.bel, fun s hs b hd => by
    rcases List.mem_cons.1 hs with rfl | hs
    · exact Nat.le_trans h.bel.size (hf b hd)
    · exact h.far s hs b hd⟩
/-- events marked from m on -/
def mkE (m : Int) (n : Nat) : List Evt := (List.range n).map fun (i : Nat) => ⟨m + 3 * (i : Int), m + 3 * (i : Int) + 1, m + 3 * (i : Int) + 1 + 1⟩
theorem mkE_len (m : Int) (n : Nat) : (mkE m n).length = n := by simp [mkE]
theorem mkE_at (m : Int) (n i : Nat) (h : i < n) : (mkE m n).getD i e0 = ⟨m + 3 * (i : Int), m + 3 * (i : Int) + 1, m + 3 * (i : Int) + 1 + 1⟩ := by
  simp [mkE, List.getD_eq_getElem?_getD, List.getElem?_range h]
def mkP (l : List Evt) (m : Int) : Nat → List Evt
  | 0 => l
  | k + 1 => (mkP l m k).set k ⟨m + 3 * (k : Int), m + 3 * (k : Int) + 1, m + 3 * (k : Int) + 1 + 1⟩
theorem mkP_len (l : List Evt) (m : Int) (k : Nat) : (mkP l m k).length = l.length := by
  induction k with
  | zero => rfl
  | succ k ih => simp [mkP, ih]
theorem mkP_at (l : List Evt) (m : Int) (k j : Nat) (hj : j < l.length) : (mkP l m k).getD j e0 = if j < k then ⟨m + 3 * (j : Int), m + 3 * (j : Int) + 1, m + 3 * (j : Int) + 1 + 1⟩ else l.getD j e0 := by
  induction k with
  | zero => simp [mkP]
  | succ k ih =>
    show ((mkP l m k).set k _).getD j e0 = _
    by_cases e : j = k
    · subst e
      rw [List.getD_eq_getElem?_getD, List.getElem?_set_self (by rw [mkP_len]; exact hj), if_pos (by omega)]
      rfl
    · rw [List.getD_eq_getElem?_getD, List.getElem?_set_ne (fun e2 => e e2.symm), ← List.getD_eq_getElem?_getD, ih]
      by_cases h : j < k
      · rw [if_pos h, if_pos (by omega)]
      · rw [if_neg h, if_neg (by omega)]
theorem evs_ext {a b : List Evt} (hl : a.length = b.length) (h : ∀ i, i < a.length → a.getD i e0 = b.getD i e0) : a = b := by
  apply List.ext_getElem hl
  intro i h1 h2
  have := h i h1
  rw [List.getD_eq_getElem?_getD, List.getD_eq_getElem?_getD, List.getElem?_eq_getElem h1, List.getElem?_eq_getElem h2] at this
  exact this
theorem mkP_all (l : List Evt) (m : Int) : mkP l m l.length = mkE m l.length :=
  evs_ext (by rw [mkP_len, mkE_len]) fun i hi => by
    rw [mkP_len] at hi
    rw [mkP_at _ _ _ _ hi, mkE_at _ _ _ hi, if_pos hi]
set_option maxRecDepth 100000 in
set_option maxHeartbeats 2000000 in
theorem marke (v : Value) (m : Int) (l : List Evt) (w : World) (h : OwnE 0 w v l) (hl : l.length ≤ 1048576) (hm0 : 0 ≤ m) (hm1 : m ≤ 1000000000) :
    Calls Tryd.prog 45 #[v, .int .i64 m] w fun e w' => e = .returned (.int .i64 (m + 3 * (l.length : Int))) ∧ OwnE 0 w' v (mkE m l.length) ∧ Outs v w w' := by
  by_cases hz : l.length = 0
  · obtain rfl : l = [] := List.length_eq_zero_iff.1 hz
    obtain ⟨a, c, rfl, _⟩ := h.read
    go_enter Tryd.func45, Tryd.ntmps45
    go_wp2
    go_loop [1, 5] (fun q i => q = .int .i64 m ∧ i = .int .i64 0) (fun _ i => 0)
    case atStart => exact ⟨rfl, rfl⟩
    case round =>
      obtain ⟨rfl, rfl⟩ := hrel
      go_wp2
      go_ret
      exact ⟨ret_int (by simp), .inl ⟨rfl, a, c, rfl⟩, rfl, rfl, rfl, Nat.le_refl _, fun _ _ _ => rfl⟩
  · rcases h with ⟨rfl, _⟩ | ⟨g, c, _, rfl, h⟩
    · exact absurd rfl hz
    have hfin : Hid (∀ W, EvO W g (mkP l m l.length) → w.grownBy W (some g) → OwnE 0 W (.slice (some ⟨g, 0, none⟩) l.length c) (mkE m l.length) ∧ Outs (.slice (some ⟨g, 0, none⟩) l.length c) w W) := fun W hM hG => by
      rw [mkP_all] at hM
      refine ⟨.inr ⟨g, c, Nat.zero_le _, by rw [mkE_len], hM⟩, hG.os, hG.tape, hG.output, hG.size, fun b hb hn => hG.block b hb (fun e2 => hn ?_)⟩
      cases e2
      exact ⟨l.length - 1, c, by congr 1; omega⟩
    have h0 : Hid (EvO w g (mkP l m 0)) := h
    clear h hz
    go_enter Tryd.func45, Tryd.ntmps45
    go_wp2
    go_loopw [1, 5] (fun q i wr => ∃ k : Nat, k ≤ l.length ∧ i = .int .i64 k ∧ q = .int .i64 (m + 3 * (k : Int)) ∧ EvO wr g (mkP l m k) ∧ w.grownBy wr (some g)) (fun _ i _ => l.length - (intOf i).toNat)
    case atStart => exact ⟨0, by omega, rfl, by simp, h0.out, World.grownBy.refl _ _⟩
    case round =>
      obtain ⟨k, hk, rfl, rfl, hM, hG⟩ := hrel
      by_cases hlt : k < l.length
      · have hlen : k < (mkP l m k).length := by rw [mkP_len]; exact hlt
        obtain ⟨y1, y2, y3⟩ := hM.cell k hlen
        have yf := hM.fro
        have yl := hM.lt
        obtain ⟨q, hq⟩ : ∃ q : Int, m + 3 * (k : Int) = q := ⟨_, rfl⟩
        have hN : Hid (EvO (set3 wr g k q (q + 1) (q + 1 + 1)) g (mkP l m (k + 1))) := by
          have := hM.set k hlen ⟨m + 3 * (k : Int), m + 3 * (k : Int) + 1, m + 3 * (k : Int) + 1 + 1⟩
          rw [hq] at this
          show EvO _ g ((mkP l m k).set k ⟨m + 3 * (k : Int), m + 3 * (k : Int) + 1, m + 3 * (k : Int) + 1 + 1⟩)
          rw [hq]
          exact this
        have hG2 : Hid (w.grownBy (set3 wr g k q (q + 1) (q + 1 + 1)) (some g)) := grown_set1 (grown_set1 (grown_set1 hG))
        have hq0 : 0 ≤ q ∧ q ≤ 2000000000 := by omega
        have hq1 : Hid (q + 3 = m + 3 * ((k + 1 : Nat) : Int)) := by unfold Hid; omega
        rw [hq]
        clear hq hM hG
        generalize ((mkP l m k).getD k e0).t = u1 at *
        generalize ((mkP l m k).getD k e0).k = u2 at *
        generalize ((mkP l m k).getD k e0).v = u3 at *
        go_wp2
        go_roundw
        case rel => exact ⟨k + 1, by omega, by go_num, by rw [← hq1.out]; go_num, hN.out, hG2.out⟩
        case measure => simp [intOf]; omega
      · obtain rfl : k = l.length := by omega
        have hF := hid (hfin.out _ hM hG)
        clear hM hG
        go_wp2
        go_ret
        exact ⟨rfl, hF.out⟩
set_option maxRecDepth 100000 in
set_option maxHeartbeats 2000000 in
theorem helde (v : Value) (m : Int) (n : Nat) (w : World) (h : EvR w v (mkE m n)) (hl : n ≤ 1048576) (hm0 : 0 ≤ m) (hm1 : m ≤ 1000000000) :
    Calls Tryd.prog 48 #[v, .int .i64 m] w fun e w' => e = .returned (.int .i64 (m + 3 * (n : Int))) ∧ w' = w := by
  obtain ⟨a, c, e, _⟩ := id h
  rw [mkE_len] at e
  subst e
  have hAt := hid (fun k hk => mkE_at m n k hk)
  have hlen := hid (mkE_len m n)
  replace h := hid h
  go_enter Tryd.func48, Tryd.ntmps48
  go_wp2
  go_loop [1, 5] (fun q i => ∃ k : Nat, k ≤ n ∧ i = .int .i64 k ∧ q = .int .i64 (m + 3 * (k : Int))) (fun _ i => n - (intOf i).toNat)
  case atStart => exact ⟨0, by omega, rfl, by simp⟩
  case round =>
    obtain ⟨k, hk, rfl, rfl⟩ := hrel
    by_cases hlt : k < n
    · obtain ⟨g, o, rfl, y1, y2, y3⟩ := h.out.at (k := k) (by rw [hlen.out]; exact hlt)
      rw [hAt.out k hlt] at y1 y2 y3
      simp only [] at y1 y2 y3
      obtain ⟨q, hq⟩ : ∃ q : Int, m + 3 * (k : Int) = q := ⟨_, rfl⟩
      have hq0 : 0 ≤ q ∧ q ≤ 2000000000 := by omega
      have hq1 : Hid (q + 3 = m + 3 * ((k + 1 : Nat) : Int)) := by unfold Hid; omega
      rw [hq] at y1 y2 y3 ⊢
      clear hq h hAt hlen
      go_wp2
      go_round
      case rel => exact ⟨k + 1, by omega, by go_num, by rw [← hq1.out]; go_num⟩
      case measure => simp [intOf]; omega
    · obtain rfl : k = n := by omega
      go_wp2
      go_ret
      exact ⟨rfl, rfl⟩
end Go.Proofs.YtifcdojaocndhaaDoor

/- A machine that an answer owns: marked from a number on, and found so. -/
namespace Go.Proofs.YtifcdojaocndhaaDoor
open Go.ChangeShapes Go.WideShapes Go.ChangeAt Go.RowKit Go.Joins
set_option linter.unusedVariables false
set_option linter.unusedSimpArgs false

/-- all but certain blocks is as it was -/
structure OutD (D : Nat → Prop) (w w' : World) : Prop where
  os : w'.os = w.os
  tape : w'.tape = w.tape
  output : w'.output = w.output
  size : w.heap.size ≤ w'.heap.size
  block : ∀ b, b < w.heap.size → ¬ D b → w'.heap[b]? = w.heap[b]?
theorem OutD.of_below {D : Nat → Prop} {w w' : World} (h : Below w.heap.size w w') : OutD D w w' := ⟨h.os, h.tape, h.output, h.size, fun b hb _ => h.block b hb⟩
theorem OutD.of_outs {D : Nat → Prop} {v : Value} {w w' : World} (h : Outs v w w') (hd : ∀ b, rdom v b → D b) : OutD D w w' := ⟨h.os, h.tape, h.output, h.size, fun b hb hn => h.block b hb (fun e => hn (hd b e))⟩
theorem OutD.of_touch {D : Nat → Prop} {lo hi : Nat} {w w' : World} (h : Touch lo hi w w') (hd : ∀ b, lo ≤ b ∧ b < hi → D b) : OutD D w w' := ⟨h.os, h.tape, h.output, h.size, fun b hb hn => h.block b hb (by
  rcases Nat.lt_or_ge b lo with h1 | h1
  · exact .inl h1
  · rcases Nat.lt_or_ge b hi with h2 | h2
    · exact absurd (hd b ⟨h1, h2⟩) hn
    · exact .inr h2)⟩
theorem OutD.trans {D : Nat → Prop} {w w1 w2 : World} (h : OutD D w w1) (h2 : OutD D w1 w2) : OutD D w w2 := ⟨h2.os.trans h.os, h2.tape.trans h.tape, h2.output.trans h.output, Nat.le_trans h.size h2.size, fun b hb hn => (h2.block b (Nat.lt_of_lt_of_le hb h.size) hn).trans (h.block b hb hn)⟩
theorem Blk.outD {D : Nat → Prop} {w w' : World} {b : Nat} {A : Array Value} (h : Blk w b A) (ho : OutD D w w') (hn : ¬ D b) : Blk w' b A := by
  have hl := h.lt
  obtain ⟨t, h⟩ := h
  exact ⟨t, (ho.block b hl hn).trans h⟩
theorem mark0m (a : Option Addr) (cap : Nat) (m : Int) (w : World) (hm0 : 0 ≤ m) (hm1 : m ≤ 1000000000) : Calls Tryd.prog 88 #[.slice a 0 cap, .int .i64 m] w fun e w' => e = .returned (.int .i64 m) ∧ w' = w := by
  go_enter Tryd.func88, Tryd.ntmps88
  go_wp2
  go_loop [1, 5] (fun q i => q = .int .i64 m ∧ i = .int .i64 0) (fun _ _ => 0)
  case atStart => exact ⟨rfl, rfl⟩
  case round =>
    obtain ⟨rfl, rfl⟩ := hrel
    go_wp2
    go_ret
    exact ⟨rfl, rfl⟩
theorem markTm (v : Value) (m : Int) (zs : List Int) (w : World) (h : OwnI 0 w v zs) (hl : zs.length ≤ 1048576) (hm0 : 0 ≤ m) (hm1 : m ≤ 1000000000) :
    Calls Tryd.prog 88 #[v, .int .i64 m] w fun e w' => e = .returned (.int .i64 (m + (zs.length : Int))) ∧ OwnI 0 w' v (markL m zs.length) ∧ Outs v w w' := by
  by_cases h0 : 0 < zs.length
  · rcases h with ⟨rfl, a, cap, rfl⟩ | ⟨g, hg, h⟩
    · exact absurd h0 (by simp)
    refine (markr v g m zs w h (by omega) hm0 hm1).mono ?_
    rintro e w' ⟨rfl, hO, hG⟩
    refine ⟨rfl, .inr ⟨g, Nat.zero_le _, hO⟩, hG.os, hG.tape, hG.output, hG.size, fun b hb hn => ?_⟩
    obtain ⟨c, cs, t, e, _⟩ := id h
    refine hG.block b hb (fun e2 => hn ?_)
    cases e2
    exact ⟨zs.length - 1, c, by rw [e]; congr 1; omega⟩
  · obtain rfl : zs = [] := List.length_eq_zero_iff.1 (by omega)
    obtain ⟨a, cap, rfl⟩ : ∃ a cap, v = .slice a 0 cap := h.form
    refine (mark0m a cap m w hm0 hm1).mono ?_
    rintro e w' ⟨rfl, rfl⟩
    exact ⟨ret_int (by simp), .inl ⟨rfl, a, cap, rfl⟩, rfl, rfl, rfl, Nat.le_refl _, fun _ _ _ => rfl⟩
theorem markdm (v : Value) (d : Dk) (m : Int) (w : World) (h : OwnI 0 w v d.pulses) (hl : d.pulses.length ≤ 1048576) (hm0 : 0 ≤ m) (hm1 : m ≤ 1000000000) :
    Calls Tryd.prog 44 #[dkV v d, .int .i64 m] w fun e w' => e = .returned (.int .i64 (m + (d.pulses.length : Int))) ∧ OwnI 0 w' v (markL m d.pulses.length) ∧ Outs v w w' := by
  obtain ⟨P, ix, lf, lv, pl⟩ := d
  obtain ⟨a1, p1, e⟩ := h.form
  simp only [] at e
  subst e
  have hB : Hid (∀ o, Below w.heap.size w (w.alloc o)) := fun o => (Below.refl _ _).alloc (Nat.le_refl _) _
  have k1 : Hid (∀ o, OwnI 0 (w.alloc o) (.slice a1 P.length p1) P) := fun o => h.below (hB.out o)
  have hE : Hid (∀ o w2, Outs (.slice a1 P.length p1) (w.alloc o) w2 → Outs (.slice a1 P.length p1) w w2) := fun o w2 ho =>
    ⟨ho.os, ho.tape, ho.output, by have := ho.size; simp at this; omega, fun b hb hn => (ho.block b (by simp; omega) hn).trans (Below.heap_alloc w o b hb)⟩
  clear h
  replace hl : P.length ≤ 1048576 := hl
  go_enter Tryd.func44, Tryd.ntmps44
  go_wp2_with fail
  refine (markTm _ m P _ (k1.out _) hl hm0 hm1).mono ?_
  rintro e w1 ⟨rfl, h1, ho⟩
  have h2 := hid h1
  have ho2 := hid (hE.out _ _ ho)
  clear h1 ho hE
  go_wp2
  go_ret
  exact ⟨rfl, h2.out, ho2.out⟩
theorem helddm (v : Value) (d : Dk) (m : Int) (n : Nat) (w : World) (h : RowR w v (markL m n)) (hl : n ≤ 1048576) (hm0 : 0 ≤ m) (hm1 : m ≤ 1000000000) :
    Calls Tryd.prog 47 #[dkV v d, .int .i64 m] w fun e w' => e = .returned (.int .i64 (m + (n : Int))) ∧ Below w.heap.size w w' := by
  obtain ⟨P, ix, lf, lv, pl⟩ := d
  obtain ⟨a1, p1, e⟩ := h.formV
  subst e
  have hB : Hid (∀ o, Below w.heap.size w (w.alloc o)) := fun o => (Below.refl _ _).alloc (Nat.le_refl _) _
  have k1 : Hid (∀ o, RowR (w.alloc o) _ (markL m n)) := fun o => h.below (hB.out o)
  clear h
  generalize (markL m n).length = L1 at *
  go_enter Tryd.func47, Tryd.ntmps47
  go_wp2_with fail
  refine (heldr _ m n _ (k1.out _) (by omega) (by omega) (by omega)).mono ?_
  rintro e w1 ⟨rfl, rfl⟩
  have hr : 0 ≤ m + (n : Int) := by omega
  go_wp2
  go_ret
  exact ⟨rfl, hB.out _⟩
def cntMc (x : Mc) : Nat := cntM x.m + x.d.pulses.length + 3 * x.ev.length
def markMx (x : Mc) (m : Int) : Mc := { x with m := markM x.m m, d := { x.d with pulses := markL (m + (cntM x.m : Nat)) x.d.pulses.length }, ev := mkE (m + (cntM x.m : Nat) + (x.d.pulses.length : Int)) x.ev.length }
set_option maxRecDepth 100000 in
set_option maxHeartbeats 4000000 in
theorem markMc (x : Mc) (m : Int) (lo hi : Nat) (vr vm vd ve : Value) (w : World) (h : MacO lo hi x vr vm vd ve w) (hs : SmallMc x) (hm0 : 0 ≤ m) (hm1 : m ≤ 1000000) :
    Calls Tryd.prog 14 #[mcV x vr vm vd ve, .int .i64 m] w fun e w' => e = .returned (.int .i64 (m + (cntMc x : Nat))) ∧ MacO lo hi (markMx x m) vr vm vd ve w' ∧ OutD (mcDom lo hi vd ve) w w' := by
  have hc1 : cntM x.m ≤ 4000000 := by
    have h1 := hs.m.1
    have h2 := hs.m.2.1
    have h3 := hs.m.2.2
    unfold cntM
    omega
  have hd1 := hs.d
  have he1 := hs.e
  obtain ⟨a1, c1, e⟩ := OwnI.form h.d
  subst e
  obtain ⟨a2, c2, e, _⟩ := h.e.read
  subst e
  obtain ⟨b1, p1, b2, p2, e, _, _⟩ := h.m.reads.form
  simp only [memV, Value.agg.injEq, Array.mk.injEq, List.cons.injEq] at e
  obtain ⟨rfl, rfl, _⟩ := e
  have hnb : ¬ mcDom lo hi (.slice a1 x.d.pulses.length c1) (.slice a2 x.ev.length c2) w.heap.size := by
    rintro (h1 | h1 | h1)
    · have := h.h; omega
    · have := (h.d.dom h1).2.lt; omega
    · have := (h.e.dom h1).2; omega
  have hB := (Below.refl w.heap.size w).alloc (Nat.le_refl _) (.cells (mcA x (.slice b1 x.m.rom.length p1) (.slice b2 x.m.ram.length p2) (.slice a1 x.d.pulses.length c1) (.slice a2 x.ev.length c2)) 41)
  have hO := hid (OutD.of_below (D := mcDom lo hi (.slice a1 x.d.pulses.length c1) (.slice a2 x.ev.length c2)) hB)
  have hM := h.kept (W' := w.alloc (.cells (mcA x (.slice b1 x.m.rom.length p1) (.slice b2 x.m.ram.length p2) (.slice a1 x.d.pulses.length c1) (.slice a2 x.ev.length c2)) 41)) (by have := h.h; simp; omega) (fun b hb => hB.block b (by
    rcases hb with hb | hb | hb
    · have := h.h; omega
    · exact (h.d.dom hb).2.lt
    · exact (h.e.dom hb).2))
  have qB := hid (Blk.new w (mcA x (.slice b1 x.m.rom.length p1) (.slice b2 x.m.ram.length p2) (.slice a1 x.d.pulses.length c1) (.slice a2 x.ev.length c2)) 41)
  have hcc := hid (show m + (cntM x.m : Nat) + (x.d.pulses.length : Int) + 3 * (x.ev.length : Int) = m + (cntMc x : Nat) from by unfold cntMc; omega)
  replace hM := hid hM
  replace hnb := hid hnb
  have hsm := hid hs
  clear h hB hs
  go_enter Tryd.func14, Tryd.ntmps14
  go_upto_region 1 with fail
  obtain ⟨V, hV⟩ : ∃ V, w.alloc (Obj.cells (mcA x (.slice b1 x.m.rom.length p1) (.slice b2 x.m.ram.length p2) (.slice a1 x.d.pulses.length c1) (.slice a2 x.ev.length c2)) 41) = V := ⟨_, rfl⟩
  rw [hV] at hM qB hO ⊢
  clear hV
  have x1 := hid (mc_mem qB.out)
  go_wp2_with (refine wpList_load_mid rfl 30 _ rfl w.heap.size 14 rfl (mcC (.slice b1 x.m.rom.length p1) (.slice b2 x.m.ram.length p2) x.m) _ x1.out Tryd.underlying30 rfl (szMe _ _ _) ?_)
  refine (markm _ x.m m lo hi V hM.out.m hM.out.h hsm.out.m hm0 (by omega)).mono ?_
  rintro e w1 ⟨rfl, hm, ht⟩
  have o1 := OutD.of_touch (D := mcDom lo hi (.slice a1 x.d.pulses.length c1) (.slice a2 x.ev.length c2)) ht (fun b hb => .inl hb)
  have hd : OwnI 0 w1 (.slice a1 x.d.pulses.length c1) x.d.pulses := hM.out.d.kept (fun b hb => ht.block b (hM.out.d.dom hb).2.lt (by have := hM.out.a1 b hb; omega))
  have he : OwnE 0 w1 (.slice a2 x.ev.length c2) x.ev := hM.out.e.kept (fun b hb => ht.block b (hM.out.e.dom hb).2 (by have := hM.out.a2 b hb; omega))
  have hz1 := ht.size
  replace hm := hid hm
  replace hd := hid hd
  replace he := hid he
  have qB1 := hid (qB.out.outD o1 hnb.out)
  have hO1 := hid (hO.out.trans o1)
  clear x1 ht o1 qB hO
  obtain ⟨m1, hm1'⟩ : ∃ q : Int, m + (cntM x.m : Nat) = q := ⟨_, rfl⟩
  have b1' : 0 ≤ m1 ∧ m1 ≤ 5000000 := by omega
  rw [hm1'] at hcc ⊢
  replace hm1' := hid hm1'
  have x1 := hid (mc_dk qB1.out)
  go_wp2_with (refine wpList_load_mid rfl 38 _ rfl w.heap.size 48 rfl (dkL (.slice a1 x.d.pulses.length c1) x.d) _ x1.out Tryd.underlying38 rfl (szDk _ _) ?_)
  refine (markdm _ x.d m1 w1 hd.out hd1 b1'.1 (by omega)).mono ?_
  rintro e w2 ⟨rfl, hd2, ho⟩
  have o2 := OutD.of_outs (D := mcDom lo hi (.slice a1 x.d.pulses.length c1) (.slice a2 x.ev.length c2)) ho (fun b hb => .inr (.inl hb))
  have hm2 := hid (hm.out.kept (fun b h0 h1 => ho.block b (by have := hM.out.h; omega) (fun hb => hM.out.a1 b hb ⟨h0, h1⟩)))
  have he2 := hid (he.out.kept (fun b hb => ho.block b (he.out.dom hb).2 (fun hb2 => hM.out.a3 b hb2 hb)))
  have hz2 := ho.size
  replace hd2 := hid hd2
  have qB2 := hid (qB1.out.outD o2 hnb.out)
  have hO2 := hid (hO1.out.trans o2)
  clear x1 ho o2 qB1 hO1 hm hd he
  obtain ⟨m2, hm2'⟩ : ∃ q : Int, m1 + (x.d.pulses.length : Int) = q := ⟨_, rfl⟩
  have b2' : 0 ≤ m2 ∧ m2 ≤ 7000000 := by omega
  rw [hm2'] at hcc ⊢
  replace hm2' := hid hm2'
  have x1 : _ = some (Value.slice a2 x.ev.length c2) := qB2.out.cell 57
  go_wp2_with fail
  refine (marke _ m2 x.ev w2 he2.out he1 b2'.1 (by omega)).mono ?_
  rintro e w3 ⟨rfl, he3, ho⟩
  have o3 := OutD.of_outs (D := mcDom lo hi (.slice a1 x.d.pulses.length c1) (.slice a2 x.ev.length c2)) ho (fun b hb => .inr (.inr hb))
  have hO3 := hid (hO2.out.trans o3)
  have hm3 := hm2.out.kept (w' := w3) (fun b h0 h1 => ho.block b (by have := hM.out.h; omega) (fun hb => hM.out.a2 b hb ⟨h0, h1⟩))
  have hd3 := hd2.out.kept (W' := w3) (fun b hb => ho.block b (hd2.out.dom hb).2.lt (fun hb2 => hM.out.a3 b hb hb2))
  have hfin : Hid (MacO lo hi (markMx x m) (.slice b1 x.m.rom.length p1) (.slice b2 x.m.ram.length p2) (.slice a1 x.d.pulses.length c1) (.slice a2 x.ev.length c2) w3) := by
    refine ⟨hm3, ?_, ?_, by have := hM.out.h; have := ho.size; omega, hM.out.a1, hM.out.a2, hM.out.a3⟩
    · show OwnI 0 w3 _ (markL (m + (cntM x.m : Nat)) x.d.pulses.length)
      rw [hm1'.out]; exact hd3
    · show OwnE 0 w3 _ (mkE (m + (cntM x.m : Nat) + (x.d.pulses.length : Int)) x.ev.length)
      rw [hm1'.out, hm2'.out]; exact he3
  rw [hcc.out]
  clear ho o3 qB2 hO2 hm3 hd3 hm2 he3 hd2 hcc
  go_wp2
  go_ret
  exact ⟨rfl, hfin.out, hO3.out⟩
set_option maxRecDepth 100000 in
set_option maxHeartbeats 4000000 in
theorem heldMc (x : Mc) (m : Int) (lo hi : Nat) (vr vm vd ve : Value) (w : World) (h : MacO lo hi (markMx x m) vr vm vd ve w) (hs : SmallMc x) (hm0 : 0 ≤ m) (hm1 : m ≤ 1000000) :
    Calls Tryd.prog 15 #[mcV (markMx x m) vr vm vd ve, .int .i64 m] w fun e w' => e = .returned (.int .i64 (m + (cntMc x : Nat))) ∧ Below w.heap.size w w' := by
  have hc1 : cntM x.m ≤ 4000000 := by
    have h1 := hs.m.1
    have h2 := hs.m.2.1
    have h3 := hs.m.2.2
    unfold cntM
    omega
  have hd1 := hs.d
  have he1 := hs.e
  have hL := hid (MLk.start (x := markMx x m) h.m.reads (OwnI.read h.d) h.e.read 41)
  have hcc := hid (show m + (cntM x.m : Nat) + (x.d.pulses.length : Int) + 3 * (x.ev.length : Int) = m + (cntMc x : Nat) from by unfold cntMc; omega)
  obtain ⟨m1, hm1'⟩ : ∃ q : Int, m + (cntM x.m : Nat) = q := ⟨_, rfl⟩
  obtain ⟨m2, hm2'⟩ : ∃ q : Int, m1 + (x.d.pulses.length : Int) = q := ⟨_, rfl⟩
  have b1' : 0 ≤ m1 ∧ m1 ≤ 5000000 := by omega
  have b2' : 0 ≤ m2 ∧ m2 ≤ 7000000 := by omega
  have b3' : 0 ≤ m2 + 3 * (x.ev.length : Int) ∧ m2 + 3 * (x.ev.length : Int) ≤ 20000000 := by omega
  have hM := hid (fun W (hq : MLk w W (markMx x m) vr vm vd ve) => heldm _ x.m m W hq.m hs.m hm0 (by omega))
  have hD := hid (fun W (hq : MLk w W (markMx x m) vr vm vd ve) => helddm vd (markMx x m).d m1 x.d.pulses.length W (by rw [← hm1']; exact hq.d) hd1 b1'.1 (by omega))
  have hE := hid (fun W (hq : MLk w W (markMx x m) vr vm vd ve) => helde ve m2 x.ev.length W (by rw [← hm2', ← hm1']; exact hq.e) he1 b2'.1 (by omega))
  rw [hm1', hm2'] at hcc
  rw [hm1'] at hM
  rw [hm2'] at hD
  clear hm1' hm2' hc1 hd1 he1 h hs
  obtain ⟨y, hy⟩ : ∃ y, markMx x m = y := ⟨_, rfl⟩
  rw [hy] at hL hM hD hE ⊢
  clear hy
  go_enter Tryd.func15, Tryd.ntmps15
  go_upto_region 1 with fail
  obtain ⟨V, hV⟩ : ∃ V, w.alloc (Obj.cells (mcA y vr vm vd ve) 41) = V := ⟨_, rfl⟩
  rw [hV] at hL ⊢
  clear hV
  have x1 := hid (mc_mem hL.out.q)
  go_wp2_with (refine wpList_load_mid rfl 30 _ rfl w.heap.size 14 rfl (mcC vr vm y.m) _ x1.out Tryd.underlying30 rfl (szMe _ _ _) ?_)
  refine (hM.out _ hL.out).mono ?_
  rintro e w1 ⟨rfl, hb⟩
  have hL := hid (hL.out.below hb)
  have n1 : ¬ m1 < 0 := by omega
  clear hb x1 hM
  have x1 := hid (mc_dk hL.out.q)
  go_wp2_with (refine wpList_load_mid rfl 38 _ rfl w.heap.size 48 rfl (dkL vd y.d) _ x1.out Tryd.underlying38 rfl (szDk _ _) ?_)
  refine (hD.out _ hL.out).mono ?_
  rintro e w1 ⟨rfl, hb⟩
  have hL := hid (hL.out.below hb)
  have n2 : ¬ m2 < 0 := by omega
  clear hb x1 hD
  have x1 : _ = some ve := hL.out.q.cell 57
  go_wp2_with fail
  refine (hE.out _ hL.out).mono ?_
  rintro e w1 ⟨rfl, rfl⟩
  clear x1 hE
  obtain ⟨m3, hm3⟩ : ∃ q : Int, m2 + 3 * (x.ev.length : Int) = q := ⟨_, rfl⟩
  rw [hm3] at hcc b3' ⊢
  have n3 : ¬ m3 < 0 := by omega
  clear hm3
  go_wp2
  go_ret
  exact ⟨ret_int hcc.out, hL.out.bel⟩
end Go.Proofs.YtifcdojaocndhaaDoor
