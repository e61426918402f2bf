/- The machine, as plain numbers: its times, what it notes, what it does in a step and in a frame. -/
import Derived.Test.YtifcdojaocndhaaDoorM05
import Derived.Test.YtifcdojaocndhaaDoorM06
import Derived.Test.YtifcdojaocndhaaDoorM08
import Derived.Test.YtifcdojaocndhaaDoorM09
import Derived.Test.YtifcdojaocndhaaDoorM13
import Derived.Test.YtifcdojaocndhaaDoorM18
namespace Go.Proofs.YtifcdojaocndhaaDoor
open Go.ChangeShapes Go.WideShapes Go.ChangeAt Go.RowKit
set_option linter.unusedVariables false
set_option linter.unusedSimpArgs false

structure Evt where
  t : Int
  k : Int
  v : Int
abbrev e0 : Evt := ⟨0, 0, 0⟩
def Evt.ok (e : Evt) : Bool := inB e.t 0 739 && inB e.k 1 5 && inB e.v 0 255
def evAt (l : List Evt) (i : Nat) : Bool := (l.getD i e0).ok && (i == 0 || decide ((l.getD (i - 1) e0).t ≤ (l.getD i e0).t))
def evsB (l : List Evt) : Bool := (List.range l.length).all (evAt l)
/-- the machine -/
structure Mc where
  c : Cu
  m : Mem
  p : Po
  g : Sg
  d : Dk
  t : Int
  fr : Int
  pt : Int
  sv : ByteArray
  ev : List Evt
def okMc (x : Mc) : Bool := okC x.c && okM x.m && okPo x.p && okS x.g && x.d.ok && inB x.t 0 639 && inB x.fr 0 1000000 && inB x.pt 0 15 && decide (x.sv.size ≤ 1000) && decide (x.ev.length ≤ 1000) && evsB x.ev
/-- how long a cycle takes, and how long it waits ahead of that -/
def lnC (k : Int) : Int := if k = 1 ∨ k = 4 ∨ k = 5 then 4 else 3
def mustW (pg k a : Int) : Bool := if k = 4 ∨ k = 5 then decide (a % 2 = 0) else decide (bankI pg a = 1 ∨ bankI pg a = 3)
def wtC (pg k a t : Int) : Int := if mustW pg k a = true then waitI (t % 640) else 0
def endT (pg : Int) : List (Int × Int × Int) → Int → Int
  | [], t => t
  | (k, a, _) :: l, t => endT pg l (t + wtC pg k a t + lnC k)
def cyI (l : List (Nat × Nat × Nat)) : List (Int × Int × Int) := l.map fun x => ((x.1 : Int), (x.2.1 : Int), (x.2.2 : Int))
def Mc.time (x : Mc) (l : List (Int × Int × Int)) : Int := endT x.m.page l x.t - x.t
/-- what a port reads -/
def portM (x : Mc) (n : Nat) : Int :=
  if kindN n = 0 then ((readN (fun k => (x.p.key k).toNat) x.c.r7.toNat x.d.level : Nat) : Int)
  else if kindN n = 1 then x.p.joy
  else if kindN n = 3 then x.g.reg x.g.sel.toNat
  else if fetI (x.t % 640) = -1 then 255 else (x.m.ram.getD x.m.screen.toNat []).getD (fetI (x.t % 640)).toNat 0
/-- what is noted -/
def evOld (x : Mc) : List Evt := if 0 < x.ev.length ∧ x.t < (x.ev.getD (x.ev.length - 1) e0).t then [] else x.ev
def Mc.note (x : Mc) (k v : Int) : Mc := { x with ev := if (evOld x).length < 1000 then evOld x ++ [⟨x.t, k, v⟩] else evOld x }
/-- what a port is told -/
def pgM (M : Mem) (v : Nat) : Mem := if M.locked = true then M else pageM M (v : Int)
def Mc.ula (x : Mc) (v : Nat) : Mc :=
  let y := if (x.p.ula v).border = x.p.border then x else x.note 1 (x.p.ula v).border
  let z := if (x.p.ula v).beep = x.p.beep then y else y.note 2 (btN (beepN v) : Nat)
  { z with p := x.p.ula v }
def Mc.out (x : Mc) (port v : Nat) : Mc :=
  if kindN port = 0 then x.ula v
  else if kindN port = 2 then { x with m := pgM x.m v }
  else if kindN port = 3 then { x with g := { x.g with sel := ((Nat.land v 7 : Nat) : Int) } }
  else if kindN port = 4 then ({ x with g := x.g.write v } : Mc).note 3 (v : Int)
  else x
def Mc.outs (x : Mc) : List (Nat × Nat × Nat) → Mc
  | [] => x
  | (k, a, v) :: l => Mc.outs (if k = 5 then x.out a v else x) l
/-- time goes on -/
def Mc.pass (x : Mc) (t : Int) : Mc := { x with d := (run2 x.d t).1, t := x.t + t, pt := (x.pt + t) % 16, g := x.g.steps ((x.pt + t) / 16).toNat }
def Cp.cu (c : Cp) : Cu := ⟨c.b, c.c, c.d, c.e, c.h, c.l, 0, c.a, c.f, c.sp, c.pc, c.iff, c.ei, c.halt⟩
def Mc.int (x : Mc) : Mc :=
  let X := intM x.c.cp x.m
  let y := x.note 5 x.c.pc
  ({ y with c := X.c.cu, m := X.m } : Mc).pass (x.time (cyI X.cy))
def opNow (c : Cp) (M : Mem) : Nat := (decO (peekN M c.pc)).toNat
def nNow (c : Cp) (M : Mem) : Nat := (decN (peekN M c.pc) (peekN M ((c.pc + 1) % 256))).toNat
def wantsIn (x : Mc) : Bool := !x.c.halt && decide (opNow x.c.cp x.m = 17)
def Mc.instr (x : Mc) : Mc :=
  let n := portM x (nNow x.c.cp x.m)
  let X := stepM x.c.cp x.m n.toNat
  let y := if wantsIn x = true then x.note 4 n else x
  (({ y with c := X.c.cu, m := X.m } : Mc).pass (x.time (cyI X.cy))).outs X.cy
def taken (x : Mc) : Bool := decide (x.t < 8) && x.c.iff && !x.c.ei
def Mc.step (x : Mc) : Mc := if taken x = true then x.int else x.instr
def Mc.over (x : Mc) : Mc := if x.t < 640 then x else { x with t := x.t - 640, fr := x.fr + 1, ev := [] }
def frameL : Nat → Mc → Mc
  | 0, x => x
  | f + 1, x => if x.t < 640 then frameL f x.step else x
def Mc.next (x : Mc) : Mc := { x with t := x.t - 640, fr := x.fr + 1 }
def Mc.frame (x : Mc) : Mc := (frameL 160 { x with ev := [] }).next
/-- a machine that is right but for where its time stands -/
structure WkM (x : Mc) : Prop where
  c : okC x.c = true
  m : okM x.m = true
  p : okPo x.p = true
  g : okS x.g = true
  d : x.d.ok = true
  t : 0 ≤ x.t ∧ x.t ≤ 739
  pt : 0 ≤ x.pt ∧ x.pt ≤ 15
  ln : x.ev.length ≤ 1000
  ev : evsB x.ev = true
theorem okMc_iff (x : Mc) : okMc x = true ↔ WkM x ∧ x.t ≤ 639 ∧ (0 ≤ x.fr ∧ x.fr ≤ 1000000) ∧ x.sv.size ≤ 1000 := by
  unfold okMc inB
  simp only [Bool.and_eq_true, decide_eq_true_eq]
  constructor
  · rintro ⟨⟨⟨⟨⟨⟨⟨⟨⟨⟨h1, h2⟩, h3⟩, h4⟩, h5⟩, h6⟩, h7⟩, h8⟩, h9⟩, h10⟩, h11⟩
    exact ⟨⟨h1, h2, h3, h4, h5, ⟨h6.1, by omega⟩, h8, h10, h11⟩, h6.2, h7, h9⟩
  · rintro ⟨⟨h1, h2, h3, h4, h5, h6, h8, h10, h11⟩, k1, k2, k3⟩
    exact ⟨⟨⟨⟨⟨⟨⟨⟨⟨⟨h1, h2⟩, h3⟩, h4⟩, h5⟩, h6.1, k1⟩, k2⟩, h8⟩, k3⟩, h10⟩, h11⟩
theorem evsB_iff (l : List Evt) : evsB l = true ↔ ∀ i, i < l.length → evAt l i = true := by
  unfold evsB
  rw [List.all_eq_true]
  exact ⟨fun h i hi => h i (List.mem_range.2 hi), fun h i hi => h i (List.mem_range.1 hi)⟩
theorem evsB_nil : evsB [] = true := rfl
theorem evsB_snoc {l : List Evt} {e : Evt} (h : evsB l = true) (he : e.ok = true) (hl : l.length = 0 ∨ (l.getD (l.length - 1) e0).t ≤ e.t) : evsB (l ++ [e]) = true := by
  rw [evsB_iff] at h ⊢
  intro i hi
  rw [List.length_append, List.length_singleton] at hi
  have g1 : ∀ j, j < l.length → (l ++ [e]).getD j e0 = l.getD j e0 := fun j hj => by
    rw [List.getD_eq_getElem?_getD, List.getD_eq_getElem?_getD, List.getElem?_append_left hj]
  have g2 : (l ++ [e]).getD l.length e0 = e := by
    rw [List.getD_eq_getElem?_getD, List.getElem?_append_right (Nat.le_refl _), Nat.sub_self]; rfl
  by_cases hlt : i < l.length
  · have := h i hlt
    unfold evAt at this ⊢
    rw [g1 i hlt]
    by_cases h0 : i = 0
    · subst h0
      simpa using this
    · rw [g1 (i - 1) (by omega)]
      exact this
  · obtain rfl : i = l.length := by omega
    unfold evAt
    rw [g2, he, Bool.true_and]
    by_cases h0 : l.length = 0
    · simp [h0]
    · rw [g1 (l.length - 1) (by omega)]
      have := hl.resolve_left h0
      rw [decide_eq_true this, Bool.or_true]
theorem evOld_facts (x : Mc) (h : evsB x.ev = true) (hl : x.ev.length ≤ 1000) : evsB (evOld x) = true ∧ (evOld x).length ≤ 1000 ∧ ((evOld x).length = 0 ∨ ((evOld x).getD ((evOld x).length - 1) e0).t ≤ x.t) := by
  unfold evOld
  by_cases hc : 0 < x.ev.length ∧ x.t < (x.ev.getD (x.ev.length - 1) e0).t
  · rw [if_pos hc]
    exact ⟨rfl, by simp, .inl rfl⟩
  · rw [if_neg hc]
    refine ⟨h, hl, ?_⟩
    by_cases h0 : x.ev.length = 0
    · exact .inl h0
    · exact .inr (by omega)
theorem inB_yes {z a b : Int} (h0 : a ≤ z) (h1 : z ≤ b) : inB z a b = true := by simp [inB]; omega
theorem WkM.note {x : Mc} (h : WkM x) {k v : Int} (k0 : 1 ≤ k) (k1 : k ≤ 5) (v0 : 0 ≤ v) (v1 : v ≤ 255) : WkM (x.note k v) := by
  obtain ⟨e1, e2, e3⟩ := evOld_facts x h.ev h.ln
  have hok : (Evt.mk x.t k v).ok = true := by
    unfold Evt.ok
    rw [inB_yes h.t.1 h.t.2, inB_yes k0 k1, inB_yes v0 v1]; rfl
  refine ⟨h.c, h.m, h.p, h.g, h.d, h.t, h.pt, ?_, ?_⟩
  · show (if (evOld x).length < 1000 then evOld x ++ [(⟨x.t, k, v⟩ : Evt)] else evOld x).length ≤ 1000
    split
    · rw [List.length_append, List.length_singleton]; omega
    · exact e2
  · show evsB (if (evOld x).length < 1000 then evOld x ++ [(⟨x.t, k, v⟩ : Evt)] else evOld x) = true
    split
    · exact evsB_snoc e1 hok e3
    · exact e1
theorem okM_pg {M : Mem} {v : Nat} (h : okM M = true) : okM (pgM M v) = true := by
  unfold pgM
  split
  · exact h
  · exact page_ok h
theorem okPo_border {p : Po} (h : okPo p = true) : 0 ≤ p.border ∧ p.border ≤ 7 := ((okPo_iff p).1 h).2.2
theorem WkM.ula {x : Mc} (h : WkM x) (v : Nat) : WkM (x.ula v) ∧ (x.ula v).t = x.t := by
  have hp := okPo_ula h.p v
  have hb := okPo_border hp
  have s1 : WkM (if (x.p.ula v).border = x.p.border then x else x.note 1 (x.p.ula v).border) ∧ (if (x.p.ula v).border = x.p.border then x else x.note 1 (x.p.ula v).border).t = x.t := by
    split
    · exact ⟨h, rfl⟩
    · exact ⟨h.note (by omega) (by omega) (by omega) (by omega), rfl⟩
  have s2 : ∀ y : Mc, WkM y → WkM (if (x.p.ula v).beep = x.p.beep then y else y.note 2 (btN (beepN v) : Nat)) ∧ (if (x.p.ula v).beep = x.p.beep then y else y.note 2 (btN (beepN v) : Nat)).t = y.t := fun y hy => by
    have := btN_le1 (beepN v)
    split
    · exact ⟨hy, rfl⟩
    · exact ⟨hy.note (by omega) (by omega) (by omega) (by omega), rfl⟩
  have s3 := s2 _ s1.1
  exact ⟨⟨s3.1.c, s3.1.m, hp, s3.1.g, s3.1.d, s3.1.t, s3.1.pt, s3.1.ln, s3.1.ev⟩, s3.2.trans s1.2⟩
theorem WkM.out {x : Mc} (h : WkM x) (port v : Nat) (hv : v < 256) : WkM (x.out port v) ∧ (x.out port v).t = x.t := by
  unfold Mc.out
  split
  · exact h.ula v
  split
  · exact ⟨⟨h.c, okM_pg h.m, h.p, h.g, h.d, h.t, h.pt, h.ln, h.ev⟩, rfl⟩
  split
  · exact ⟨⟨h.c, h.m, h.p, okS_choose h.g _ (by omega) (by have := Nat.and_le_right (n := v) (m := 7); have e : Nat.land v 7 ≤ 7 := this; omega), h.d, h.t, h.pt, h.ln, h.ev⟩, rfl⟩
  split
  · have h2 : WkM { x with g := x.g.write v } := ⟨h.c, h.m, h.p, okS_write h.g v, h.d, h.t, h.pt, h.ln, h.ev⟩
    exact ⟨h2.note (by omega) (by omega) (by omega) (by omega), rfl⟩
  · exact ⟨h, rfl⟩
theorem ula_same (x : Mc) (v : Nat) : (x.ula v).fr = x.fr ∧ (x.ula v).sv = x.sv := by
  unfold Mc.ula
  constructor
  · show (if _ then _ else _ : Mc).fr = _
    split <;> split <;> rfl
  · show (if _ then _ else _ : Mc).sv = _
    split <;> split <;> rfl
theorem out_same (x : Mc) (a v : Nat) : (x.out a v).fr = x.fr ∧ (x.out a v).sv = x.sv := by
  unfold Mc.out
  split
  · exact ula_same x v
  split
  · exact ⟨rfl, rfl⟩
  split
  · exact ⟨rfl, rfl⟩
  split
  · exact ⟨rfl, rfl⟩
  · exact ⟨rfl, rfl⟩
theorem outs_same : ∀ (l : List (Nat × Nat × Nat)) (x : Mc), (x.outs l).fr = x.fr ∧ (x.outs l).sv = x.sv
  | [], x => ⟨rfl, rfl⟩
  | (k, a, v) :: l, x => by
    have h1 := outs_same l (if k = 5 then x.out a v else x)
    have h2 : (if k = 5 then x.out a v else x).fr = x.fr ∧ (if k = 5 then x.out a v else x).sv = x.sv := by
      split
      · exact out_same x a v
      · exact ⟨rfl, rfl⟩
    exact ⟨h1.1.trans h2.1, h1.2.trans h2.2⟩
theorem WkM.outs : ∀ (l : List (Nat × Nat × Nat)) {x : Mc}, WkM x → (∀ q ∈ l, q.2.2 < 256) → WkM (x.outs l) ∧ (x.outs l).t = x.t
  | [], x, h, _ => ⟨h, rfl⟩
  | (k, a, v) :: l, x, h, hl => by
    have hv : v < 256 := hl (k, a, v) (List.mem_cons_self ..)
    have h2 : WkM (if k = 5 then x.out a v else x) ∧ (if k = 5 then x.out a v else x).t = x.t := by
      split
      · exact h.out a v hv
      · exact ⟨h, rfl⟩
    have h3 := WkM.outs l h2.1 (fun q hq => hl q (List.mem_cons_of_mem _ hq))
    exact ⟨h3.1, h3.2.trans h2.2⟩
theorem WkM.pass {x : Mc} (h : WkM x) {t : Int} (t0 : 0 ≤ t) (t1 : x.t + t ≤ 739) : WkM (x.pass t) :=
  ⟨h.c, h.m, h.p, okS_steps h.g _, (runD_ok _ x.d t 0 h.d).1, ⟨by show 0 ≤ x.t + t; have := h.t; omega, t1⟩, by show 0 ≤ (x.pt + t) % 16 ∧ (x.pt + t) % 16 ≤ 15; omega, h.ln, h.ev⟩
theorem WkM.work {x : Mc} (h : WkM x) {c : Cu} {m : Mem} (hc : okC c = true) (hm : okM m = true) : WkM { x with c := c, m := m } := ⟨hc, hm, h.p, h.g, h.d, h.t, h.pt, h.ln, h.ev⟩
theorem waitI_bdM (t : Int) : 0 ≤ waitI t ∧ waitI t ≤ 6 := by
  unfold waitI
  split <;> omega
theorem lnC_bd (k : Int) : 3 ≤ lnC k ∧ lnC k ≤ 4 := by unfold lnC; split <;> omega
theorem wtC_bd (pg k a t : Int) : 0 ≤ wtC pg k a t ∧ wtC pg k a t ≤ 6 := by
  unfold wtC
  split
  · exact waitI_bdM _
  · omega
theorem endT_bd (pg : Int) : ∀ (l : List (Int × Int × Int)) (t : Int), t + 3 * (l.length : Int) ≤ endT pg l t ∧ endT pg l t ≤ t + 10 * (l.length : Int)
  | [], t => by simp [endT]
  | (k, a, v) :: l, t => by
    have h1 := endT_bd pg l (t + wtC pg k a t + lnC k)
    have h2 := lnC_bd k
    have h3 := wtC_bd pg k a t
    unfold endT
    rw [List.length_cons]
    push_cast
    omega
/-- a row of cycles that begins with a fetch, and is short -/
theorem time_bd {x : Mc} {X : Mx} {a v : Nat} {N : Nat} (hp : ∃ r, X.cy = (1, a, v) :: r) (hl : X.cy.length ≤ N) : 4 ≤ x.time (cyI X.cy) ∧ x.time (cyI X.cy) ≤ 10 * (N : Int) := by
  obtain ⟨r, hr⟩ := hp
  unfold Mc.time
  have h1 := endT_bd x.m.page (cyI X.cy) x.t
  have hlen : (cyI X.cy).length = X.cy.length := by simp [cyI]
  rw [hlen] at h1
  refine ⟨?_, by omega⟩
  rw [hr]
  show 4 ≤ endT x.m.page (cyI r) (x.t + wtC x.m.page (1 : Nat) (a : Int) x.t + lnC (1 : Nat)) - x.t
  have h2 := endT_bd x.m.page (cyI r) (x.t + wtC x.m.page (1 : Nat) (a : Int) x.t + lnC (1 : Nat))
  have h3 := wtC_bd x.m.page (1 : Nat) (a : Int) x.t
  have h4 : lnC ((1 : Nat) : Int) = 4 := rfl
  omega
theorem cu_cp (c : Cp) : c.cu.cp = c := rfl
theorem cuV_cp (c : Cp) : cuV c.cu = cpV c := rfl
theorem okC_of_cp {c : Cp} (h : c.ok) (he : c.ei = true → c.iff = true) : okC c.cu = true := by
  obtain ⟨h0, h1, h2, h3, h4, h5, h6, h7, h8, h9⟩ := h
  have hr : regsB c.cu = true := regs_all (fun i hi => by
    rcases (by omega : i = 0 ∨ i = 1 ∨ i = 2 ∨ i = 3 ∨ i = 4 ∨ i = 5 ∨ i = 6 ∨ i = 7) with rfl | rfl | rfl | rfl | rfl | rfl | rfl | rfl <;> exact inB_yes (by simp [Cu.reg, Cp.cu]) (by simp only [Cu.reg, Cp.cu]; omega))
  unfold okC
  rw [hr, inB_yes (z := c.cu.f) (by simp [Cp.cu]) (by simp only [Cp.cu]; omega), inB_yes (z := c.cu.sp) (by simp [Cp.cu]) (by simp only [Cp.cu]; omega), inB_yes (z := c.cu.pc) (by simp [Cp.cu]) (by simp only [Cp.cu]; omega)]
  show (true && decide ((0 : Int) = 0) && true && true && true && (!c.ei || c.iff)) = true
  cases h : c.ei
  · simp
  · simp [he h]
theorem okC_ei {c : Cu} (h : okC c = true) : c.cp.ei = true → c.cp.iff = true := (okC_parts h).2.2.2.2.2
theorem int_inv {c : Cp} {M : Mem} (hc : c.ok) (hk : okM M = true) (he : c.ei = false) : Inv M (1, c.pc, peekN M c.pc) 2 (intM c M) := by
  have hp := hc.2.2.2.2.2.2.2.2.2
  have h1 := stepP_inv hc hk
  have h0 : Inv M (1, c.pc, peekN M c.pc) 1 (intP c M) := ⟨hc, hk, (fun e => by have e2 : c.ei = true := e; rw [he] at e2; cases e2), h1.cy, h1.len, h1.pre, h1.rep⟩
  have h2 := h0.push c.pc hp
  refine h2.cpu { ((intP c M).push c.pc).c with pc := 56 } ?_ h2.ei
  obtain ⟨a0, a1, a2, a3, a4, a5, a6, a7, a8, a9⟩ := h2.c
  exact ⟨a0, a1, a2, a3, a4, a5, a6, a7, a8, by show 56 < 256; decide⟩
theorem portM_bd {x : Mc} (h : WkM x) (n : Nat) : 0 ≤ portM x n ∧ portM x n ≤ 255 := by
  have hfb : ∀ t : Int, 0 ≤ t → t ≤ 639 → fetI t ≠ -1 → 0 ≤ fetI t ∧ fetI t ≤ 63 := fun t h0 h1 => by
    unfold fetI scrI inB
    split
    · rename_i hh
      obtain ⟨h2, h3⟩ := hh
      simp only [Bool.and_eq_true, decide_eq_true_eq] at h2
      intro _
      omega
    · intro hh; exact absurd rfl hh
  unfold portM
  split
  · have : readN (fun k => (x.p.key k).toNat) x.c.r7.toNat x.d.level < 256 := by
      unfold readN
      refine lor8q (lor8q (Nat.lt_of_lt_of_le (rowsN_lt _ _ _) (by decide)) (by decide)) ?_
      cases x.d.level <;> decide
    omega
  split
  · have := ((okPo_iff x.p).1 h.p).2.1
    omega
  split
  · obtain ⟨s, hs, hs8⟩ := okS_sel h.g
    have h1 := ((okS_iff x.g).1 h.g).1 s hs8
    rw [hs, Int.toNat_natCast]
    have := maskN_lt s
    omega
  split
  · omega
  · rename_i hf
    have ht := h.t
    have hb := hfb (x.t % 640) (by omega) (by omega) hf
    obtain ⟨k1, k2, k3, k4, k5⟩ := ok_parts h.m
    have hr := k5 x.m.screen.toNat (by omega)
    have := bytes_bd hr (i := (fetI (x.t % 640)).toNat) (by have := bytes_len hr; omega)
    exact this
/-- what a step keeps -/
theorem WkM.step {x : Mc} (h : WkM x) (ht : x.t ≤ 639) : WkM x.step ∧ x.t + 4 ≤ x.step.t ∧ x.step.t ≤ x.t + 40 ∧ x.step.fr = x.fr ∧ x.step.sv = x.sv := by
  obtain ⟨hcv, hco⟩ := okC_cp h.c
  have hpc := (okC_parts h.c).2.2.2.2.1
  unfold Mc.step
  split
  · rename_i htk
    have hei : x.c.cp.ei = false := by
      unfold taken at htk
      simp only [Bool.and_eq_true, Bool.not_eq_true'] at htk
      exact htk.2
    have hI := int_inv hco h.m hei
    have hT := time_bd (x := x) hI.pre hI.len
    have hn := h.note (k := 5) (v := x.c.pc) (by omega) (by omega) hpc.1 hpc.2
    have hs := h.t
    refine ⟨WkM.pass (x := { x.note 5 x.c.pc with c := (intM x.c.cp x.m).c.cu, m := (intM x.c.cp x.m).m }) (hn.work (okC_of_cp hI.c hI.ei) hI.m) (by omega) ?_, ?_, ?_, rfl, rfl⟩
    · show x.t + _ ≤ 739
      omega
    · show x.t + 4 ≤ x.t + _
      omega
    · show x.t + _ ≤ x.t + 40
      omega
  · have hb := portM_bd h (nNow x.c.cp x.m)
    have hI := step_inv (n := (portM x (nNow x.c.cp x.m)).toNat) hco h.m (by omega)
    have hT := time_bd (x := x) hI.pre hI.len
    have hs := h.t
    have hn : WkM (if wantsIn x = true then x.note 4 (portM x (nNow x.c.cp x.m)) else x) ∧ (if wantsIn x = true then x.note 4 (portM x (nNow x.c.cp x.m)) else x).t = x.t := by
      split
      · exact ⟨h.note (by omega) (by omega) hb.1 hb.2, rfl⟩
      · exact ⟨h, rfl⟩
    have hq := WkM.pass (x := { (if wantsIn x = true then x.note 4 (portM x (nNow x.c.cp x.m)) else x) with c := (stepM x.c.cp x.m (portM x (nNow x.c.cp x.m)).toNat).c.cu, m := (stepM x.c.cp x.m (portM x (nNow x.c.cp x.m)).toNat).m }) (hn.1.work (okC_of_cp hI.c hI.ei) hI.m) (t := x.time (cyI (stepM x.c.cp x.m (portM x (nNow x.c.cp x.m)).toNat).cy)) (by omega) (by show (if wantsIn x = true then x.note 4 (portM x (nNow x.c.cp x.m)) else x).t + _ ≤ 739; rw [hn.2]; omega)
    have ho := WkM.outs (stepM x.c.cp x.m (portM x (nNow x.c.cp x.m)).toNat).cy hq (fun q hq => (hI.cy q hq).2.2.2)
    have et : x.instr.t = x.t + x.time (cyI (stepM x.c.cp x.m (portM x (nNow x.c.cp x.m)).toNat).cy) := by
      refine ho.2.trans ?_
      show (if wantsIn x = true then x.note 4 (portM x (nNow x.c.cp x.m)) else x).t + _ = _
      rw [hn.2]
    have e4 : x.instr.fr = x.fr ∧ x.instr.sv = x.sv := by
      have e5 := outs_same (stepM x.c.cp x.m (portM x (nNow x.c.cp x.m)).toNat).cy (({ (if wantsIn x = true then x.note 4 (portM x (nNow x.c.cp x.m)) else x) with c := (stepM x.c.cp x.m (portM x (nNow x.c.cp x.m)).toNat).c.cu, m := (stepM x.c.cp x.m (portM x (nNow x.c.cp x.m)).toNat).m } : Mc).pass (x.time (cyI (stepM x.c.cp x.m (portM x (nNow x.c.cp x.m)).toNat).cy)))
      have e6 : (if wantsIn x = true then x.note 4 (portM x (nNow x.c.cp x.m)) else x).fr = x.fr ∧ (if wantsIn x = true then x.note 4 (portM x (nNow x.c.cp x.m)) else x).sv = x.sv := by
        split
        · exact ⟨rfl, rfl⟩
        · exact ⟨rfl, rfl⟩
      exact ⟨e5.1.trans e6.1, e5.2.trans e6.2⟩
    exact ⟨ho.1, by rw [et]; omega, by rw [et]; omega, e4.1, e4.2⟩
end Go.Proofs.YtifcdojaocndhaaDoor
