/- What a step keeps: all stay bytes, and the cycles tell what was written. -/
import Derived.Test.YtgpmpfikeindfaaGreatDoorV12
namespace Go.Proofs.YtgpmpfikeindfaaGreatDoor
set_option linter.unusedVariables false
set_option linter.unusedSimpArgs false

theorem lor8q {a b : Nat} (ha : a < 256) (hb : b < 256) : Nat.lor a b < 256 := Nat.or_lt_two_pow (n := 8) ha hb
theorem land8q (a : Nat) {b : Nat} (hb : b < 256) : Nat.land a b < 256 := Nat.and_lt_two_pow (n := 8) a hb
theorem xor8q {a b : Nat} (ha : a < 256) (hb : b < 256) : Nat.xor a b < 256 := Nat.xor_lt_two_pow (n := 8) ha hb
theorem btN_le1 (b : Bool) : btN b ≤ 1 := by cases b <;> decide
theorem mul_btq {k : Nat} (hk : k < 256) (b : Bool) : Nat.mul k (btN b) < 256 := by
  cases b
  · show k * 0 < 256; omega
  · show k * 1 < 256; omega
theorem addF_lq {a b c : Nat} (ha : a < 256) (hb : b < 256) (hc : c < 2) : addF a b c < 256 := by
  exact lor8q (lor8q (lor8q (szN_lt _ (addV_lt _ _ _)) (Nat.lt_of_le_of_lt (btN_le1 _) (by decide))) (mul_btq (by decide) _)) (mul_btq (by decide) _)
theorem subF_lq {a b c : Nat} (ha : a < 256) (hb : b < 256) (hc : c < 2) : subF a b c < 256 := by
  exact lor8q (lor8q (lor8q (lor8q (szN_lt _ (subV_lt _ _ _)) (by decide)) (Nat.lt_of_le_of_lt (btN_le1 _) (by decide))) (mul_btq (by decide) _)) (mul_btq (by decide) _)
theorem logV_lq {o a b : Nat} (ha : a < 256) (hb : b < 256) : logV o a b < 256 := by
  unfold logV
  cases Nat.beq o 0
  · cases Nat.beq o 1
    · exact lor8q ha hb
    · exact xor8q ha hb
  · exact land8q a hb
theorem logF_lq {o a b : Nat} (ha : a < 256) (hb : b < 256) : logF o a b < 256 := by
  unfold logF
  cases Nat.beq o 0
  · exact szpN_lt _ (logV_lq ha hb)
  · exact lor8q (szpN_lt _ (land8q a hb)) (by decide)
theorem incF_lq {a f : Nat} : incF a f < 256 := lor8q (lor8q (lor8q (land8q f (by decide)) (szN_lt _ (incV_lt a))) (mul_btq (by decide) _)) (mul_btq (by decide) _)
theorem decF_lq {a f : Nat} : decF a f < 256 := lor8q (lor8q (lor8q (lor8q (land8q f (by decide)) (szN_lt _ (decV_lt a))) (by decide)) (mul_btq (by decide) _)) (mul_btq (by decide) _)
theorem land1q (f : Nat) : Nat.land f 1 < 2 := Nat.and_lt_two_pow (n := 1) f (by decide)
theorem aluV_lq {o a b f : Nat} (ha : a < 256) (hb : b < 256) : aluV o a b f < 256 := by
  unfold aluV
  split
  · exact addV_lt _ _ _
  split
  · exact addV_lt _ _ _
  split
  · exact subV_lt _ _ _
  split
  · exact subV_lt _ _ _
  split
  · exact ha
  · exact logV_lq ha hb
theorem aluF_lq {o a b f : Nat} (ha : a < 256) (hb : b < 256) : aluF o a b f < 256 := by
  unfold aluF
  split
  · exact addF_lq ha hb (by decide)
  split
  · exact addF_lq ha hb (land1q f)
  split
  · exact subF_lq ha hb (by decide)
  split
  · exact subF_lq ha hb (land1q f)
  split
  · exact lor8q (land8q _ (by decide)) (land8q _ (by decide))
  · exact logF_lq ha hb
theorem turnV_lq {o a c : Nat} (ho : o < 8) (ha : a < 256) (hc : c < 2) : turnV o a c < 256 := by
  have h : ∀ o, o < 8 → ∀ a, a < 256 → ∀ c, c < 2 → Nat.ble (turnV o a c) 255 = true := by decide +kernel
  have := Nat.le_of_ble_eq_true (h o ho a ha c hc)
  omega
theorem turnF_lq {o a c : Nat} (ho : o < 8) (ha : a < 256) (hc : c < 2) : turnF o a c < 256 := by
  have h : ∀ o, o < 8 → ∀ a, a < 256 → ∀ c, c < 2 → Nat.ble (turnF o a c) 255 = true := by decide +kernel
  have := Nat.le_of_ble_eq_true (h o ho a ha c hc)
  omega
theorem tstF_lq {o a f : Nat} (ho : o < 8) (ha : a < 256) (hf : f < 256) : tstF o a f < 256 :=
  lor8q (lor8q (lor8q (lor8q (land8q f (by decide)) (by decide)) (land8q a (by decide))) (land8q _ (by decide))) (mul_btq (by decide) _)
theorem daaV_lq (a f : Nat) : daaV a f < 256 := by
  unfold daaV
  cases Nat.beq (Nat.land f 2) 0
  · exact land8q _ (by decide)
  · exact land8q _ (by decide)
theorem daaH_lq (a f : Nat) : daaH a f ≤ 1 := by
  unfold daaH
  cases Nat.beq (Nat.land f 2) 0
  · exact btN_le1 _
  · exact btN_le1 _
theorem daaF_lq (a f : Nat) : daaF a f < 256 := by
  have hH := daaH_lq a f
  refine lor8q (lor8q (lor8q (szpN_lt _ (daaV_lq a f)) (land8q f (by decide))) ?_) (by show 16 * daaH a f < 256; omega)
  unfold daaC
  cases (Nat.beq (Nat.land f 1) 1 || Nat.ble 154 a) <;> decide
theorem copyF_lq (f n b : Nat) : copyF f n b < 256 := by
  unfold copyF
  refine lor8q (lor8q (lor8q (land8q f (by decide)) (land8q n (by decide))) (land8q _ (by decide))) ?_
  split <;> decide
theorem put_okq {c : Cp} (h : c.ok) {v : Nat} (hv : v < 256) (r : Nat) : (c.put v r).ok := by
  obtain ⟨h0, h1, h2, h3, h4, h5, h6, h7, h8, h9⟩ := h
  unfold Cp.put
  split <;> simp only [Cp.ok] <;> omega
theorem put_iffq (c : Cp) (v r : Nat) : (c.put v r).iff = c.iff ∧ (c.put v r).ei = c.ei := by
  unfold Cp.put
  split <;> exact ⟨rfl, rfl⟩
/-- what the cycles say, done again -/
def again (M : Mem) (t : Nat × Nat × Nat) : Mem := if t.1 = 3 then pokeM M (t.2.1 : Int) (t.2.2 : Int) else M
def replay (M : Mem) (l : List (Nat × Nat × Nat)) : Mem := l.foldl again M
theorem replay_snoc (M : Mem) (l : List (Nat × Nat × Nat)) (t : Nat × Nat × Nat) : replay M (l ++ [t]) = again (replay M l) t := by simp [replay]
structure Inv (M0 : Mem) (t0 : Nat × Nat × Nat) (N : Nat) (x : Mx) : Prop where
  c : x.c.ok
  m : okM x.m = true
  ei : x.c.ei = true → x.c.iff = true
  cy : ∀ t, t ∈ x.cy → 1 ≤ t.1 ∧ t.1 ≤ 5 ∧ t.2.1 < 256 ∧ t.2.2 < 256
  len : x.cy.length ≤ N
  pre : ∃ r, x.cy = t0 :: r
  rep : replay M0 x.cy = x.m
theorem Inv.more {M0 : Mem} {t0 : Nat × Nat × Nat} {N N' : Nat} {x : Mx} (h : Inv M0 t0 N x) (hn : N ≤ N') : Inv M0 t0 N' x := ⟨h.c, h.m, h.ei, h.cy, Nat.le_trans h.len hn, h.pre, h.rep⟩
theorem Inv.note {M0 : Mem} {t0 : Nat × Nat × Nat} {N : Nat} {x : Mx} (h : Inv M0 t0 N x) (k a v : Nat) (h1 : 1 ≤ k) (h5 : k ≤ 5) (h3 : k ≠ 3) (ha : a < 256) (hv : v < 256) : Inv M0 t0 (N + 1) (x.note k a v) := by
  obtain ⟨r, hr⟩ := h.pre
  refine ⟨h.c, h.m, h.ei, fun t ht => ?_, ?_, ⟨r ++ [(k, a, v)], ?_⟩, ?_⟩
  · rcases List.mem_append.1 ht with ht | ht
    · exact h.cy t ht
    · simp at ht
      subst ht
      exact ⟨h1, h5, ha, hv⟩
  · show (x.cy ++ [_]).length ≤ _
    have := h.len
    simp
    omega
  · show x.cy ++ [_] = _
    rw [hr]; rfl
  · show replay M0 (x.cy ++ [_]) = x.m
    rw [replay_snoc, h.rep]
    unfold again
    rw [if_neg h3]
theorem Inv.read {M0 : Mem} {t0 : Nat × Nat × Nat} {N : Nat} {x : Mx} (h : Inv M0 t0 N x) (a : Nat) (ha : a < 256) : Inv M0 t0 (N + 1) (x.read a) := h.note 2 a _ (by decide) (by decide) (by decide) ha (peek_byte h.m ha).2
theorem Inv.write {M0 : Mem} {t0 : Nat × Nat × Nat} {N : Nat} {x : Mx} (h : Inv M0 t0 N x) (a v : Nat) (ha : a < 256) (hv : v < 256) : Inv M0 t0 (N + 1) (x.write a v) := by
  obtain ⟨r, hr⟩ := h.pre
  refine ⟨h.c, poke_ok h.m (in_yes (by omega) (by omega)), h.ei, fun t ht => ?_, ?_, ⟨r ++ [(3, a, v)], ?_⟩, ?_⟩
  · rcases List.mem_append.1 ht with ht | ht
    · exact h.cy t ht
    · simp at ht
      subst ht
      exact ⟨by show 1 ≤ 3; decide, by show 3 ≤ 5; decide, ha, hv⟩
  · show (x.cy ++ [_]).length ≤ _
    have := h.len
    simp
    omega
  · show x.cy ++ [_] = _
    rw [hr]; rfl
  · show replay M0 (x.cy ++ [_]) = _
    rw [replay_snoc, h.rep]
    rfl
theorem Inv.cpu {M0 : Mem} {t0 : Nat × Nat × Nat} {N : Nat} {x : Mx} (h : Inv M0 t0 N x) (c' : Cp) (hc : c'.ok) (he : c'.ei = true → c'.iff = true) : Inv M0 t0 N { x with c := c' } := ⟨hc, h.m, he, h.cy, h.len, h.pre, h.rep⟩
theorem Inv.getX {M0 : Mem} {t0 : Nat × Nat × Nat} {N : Nat} {x : Mx} (h : Inv M0 t0 N x) (r : Nat) : Inv M0 t0 (N + 1) (x.getX r) := by
  unfold Mx.getX
  split
  · exact h.read _ h.c.2.2.2.2.1
  · exact h.more (by omega)
theorem Inv.set {M0 : Mem} {t0 : Nat × Nat × Nat} {N : Nat} {x : Mx} (h : Inv M0 t0 N x) (r v : Nat) (hv : v < 256) : Inv M0 t0 (N + 1) (x.set r v) := by
  unfold Mx.set
  split
  · exact h.write _ _ h.c.2.2.2.2.1 hv
  · refine (h.cpu _ (put_okq h.c hv r) ?_).more (by omega)
    rw [(put_iffq _ _ _).1, (put_iffq _ _ _).2]
    exact h.ei
theorem Inv.push {M0 : Mem} {t0 : Nat × Nat × Nat} {N : Nat} {x : Mx} (h : Inv M0 t0 N x) (v : Nat) (hv : v < 256) : Inv M0 t0 (N + 1) (x.push v) := by
  obtain ⟨h0, h1, h2, h3, h4, h5, h6, h7, h8, h9⟩ := h.c
  have hs : (x.c.sp + 255) % 256 < 256 := Nat.mod_lt _ (by decide)
  exact (h.cpu { x.c with sp := (x.c.sp + 255) % 256 } ⟨h0, h1, h2, h3, h4, h5, h6, h7, hs, h9⟩ h.ei).write _ _ hs hv
theorem Inv.popX {M0 : Mem} {t0 : Nat × Nat × Nat} {N : Nat} {x : Mx} (h : Inv M0 t0 N x) : Inv M0 t0 (N + 1) x.popX := by
  obtain ⟨h0, h1, h2, h3, h4, h5, h6, h7, h8, h9⟩ := h.c
  have hs : (x.c.sp + 1) % 256 < 256 := Nat.mod_lt _ (by decide)
  exact (h.read x.c.sp h8).cpu { x.c with sp := (x.c.sp + 1) % 256 } ⟨h0, h1, h2, h3, h4, h5, h6, h7, hs, h9⟩ h.ei
theorem Inv.popV {M0 : Mem} {t0 : Nat × Nat × Nat} {N : Nat} {x : Mx} (h : Inv M0 t0 N x) : x.popV < 256 := (peek_byte h.m h.c.2.2.2.2.2.2.2.2.1).2
theorem Inv.alu {M0 : Mem} {t0 : Nat × Nat × Nat} {N : Nat} {x : Mx} (h : Inv M0 t0 N x) (o b : Nat) (hb : b < 256) : Inv M0 t0 N (x.alu o b) := by
  obtain ⟨h0, h1, h2, h3, h4, h5, h6, h7, h8, h9⟩ := h.c
  exact h.cpu _ ⟨h0, h1, h2, h3, h4, h5, aluV_lq h6 hb, aluF_lq h6 hb, h8, h9⟩ h.ei
theorem Inv.run {M0 : Mem} {t0 : Nat × Nat × Nat} {N : Nat} {x : Mx} (h : Inv M0 t0 N x) (n a b m : Nat) (hn : n < 256) (ha : a < 8) (hm : m < 256) (o : Nat) : Inv M0 t0 (N + 2) (x.run n a b m o) := by
  obtain ⟨h0, h1, h2, h3, h4, h5, h6, h7, h8, h9⟩ := h.c
  have gv : ∀ r, x.getV r < 256 := fun r => getV_lt h.m h.c r
  have gx : ∀ r f, f < 256 → Inv M0 t0 (N + 1) { x.getX r with c := { x.c with f := f } } := fun r f hf => (h.getX r).cpu _ ⟨h0, h1, h2, h3, h4, h5, h6, hf, h8, h9⟩ h.ei
  unfold Mx.run
  split
  · exact (h.getX b).set a _ (gv b)
  · exact (h.set a m hm).more (by omega)
  · exact ((h.read m hm).cpu { x.c with a := peekN x.m m } ⟨h0, h1, h2, h3, h4, h5, (peek_byte h.m hm).2, h7, h8, h9⟩ h.ei).more (by omega)
  · exact (h.write m x.c.a hm h6).more (by omega)
  · exact ((h.getX b).alu a _ (gv b)).more (by omega)
  · exact (h.alu a m hm).more (by omega)
  · exact (gx a _ incF_lq).set a _ (incV_lt _)
  · exact (gx a _ decF_lq).set a _ (decV_lt _)
  · exact (gx b _ (turnF_lq ha (gv b) (land1q _))).set b _ (turnV_lq ha (gv b) (land1q _))
  · exact (gx b _ (tstF_lq ha (gv b) h7)).more (by omega)
  · exact (h.cpu { x.c with a := daaV x.c.a x.c.f, f := daaF x.c.a x.c.f } ⟨h0, h1, h2, h3, h4, h5, daaV_lq _ _, daaF_lq _ _, h8, h9⟩ h.ei).more (by omega)
  · split
    · exact (h.cpu { x.c with pc := m } ⟨h0, h1, h2, h3, h4, h5, h6, h7, h8, hm⟩ h.ei).more (by omega)
    · exact h.more (by omega)
  · split
    · have hp := h.push x.c.pc h9
      obtain ⟨k0, k1, k2, k3, k4, k5, k6, k7, k8, k9⟩ := hp.c
      exact (hp.cpu { (x.push x.c.pc).c with pc := m } ⟨k0, k1, k2, k3, k4, k5, k6, k7, k8, hm⟩ hp.ei).more (by omega)
    · exact h.more (by omega)
  · split
    · have hp := h.popX
      obtain ⟨k0, k1, k2, k3, k4, k5, k6, k7, k8, k9⟩ := hp.c
      exact (hp.cpu { x.popX.c with pc := x.popV } ⟨k0, k1, k2, k3, k4, k5, k6, k7, k8, h.popV⟩ hp.ei).more (by omega)
    · exact h.more (by omega)
  · refine (h.push _ ?_).more (by omega)
    split
    · exact h7
    · exact reg_lt h.c a
  · have hp := h.popX
    obtain ⟨k0, k1, k2, k3, k4, k5, k6, k7, k8, k9⟩ := hp.c
    split
    · exact (hp.cpu { x.popX.c with f := x.popV } ⟨k0, k1, k2, k3, k4, k5, k6, h.popV, k8, k9⟩ hp.ei).more (by omega)
    · refine (hp.cpu _ (put_okq hp.c h.popV a) ?_).more (by omega)
      rw [(put_iffq _ _ _).1, (put_iffq _ _ _).2]
      exact hp.ei
  · exact ((h.note 4 m n (by decide) (by decide) (by decide) hm hn).cpu { x.c with a := n, f := Nat.lor (Nat.land x.c.f 1) (szpN n) } ⟨h0, h1, h2, h3, h4, h5, hn, lor8q (land8q _ (by decide)) (szpN_lt n hn), h8, h9⟩ h.ei).more (by omega)
  · exact (h.note 5 m x.c.a (by decide) (by decide) (by decide) hm h6).more (by omega)
  · exact (h.cpu { x.c with halt := true } h.c h.ei).more (by omega)
  · exact (h.cpu { x.c with iff := true, ei := true } h.c (fun _ => rfl)).more (by omega)
  · exact (h.cpu { x.c with iff := false, ei := false } h.c (fun e => e)).more (by omega)
  · have hb1 : (x.c.h + 1) % 256 < 256 := Nat.mod_lt _ (by decide)
    have hb2 : (x.c.d + 1) % 256 < 256 := Nat.mod_lt _ (by decide)
    have hb3 : (x.c.b + 255) % 256 < 256 := Nat.mod_lt _ (by decide)
    exact ((h.read x.c.h h4).write x.c.d _ h2 (peek_byte h.m h4).2).cpu _ ⟨hb3, h1, hb2, h3, hb1, h5, h6, copyF_lq _ _ _, h8, h9⟩ h.ei
  · exact h.more (by omega)
theorem stepP_inv {c : Cp} {M : Mem} (hc : c.ok) (hk : okM M = true) : Inv M (1, c.pc, peekN M c.pc) 1 (stepP c M) := by
  have hp : c.pc < 256 := hc.2.2.2.2.2.2.2.2.2
  refine ⟨hc, hk, (fun e => by cases e), fun t ht => ?_, Nat.le_refl _, ⟨[], rfl⟩, rfl⟩
  have ht : t ∈ [(1, c.pc, peekN M c.pc)] := ht
  simp at ht
  subst ht
  exact ⟨by show 1 ≤ 1; decide, by show 1 ≤ 5; decide, hp, (peek_byte hk hp).2⟩
theorem step_inv {c : Cp} {M : Mem} {n : Nat} (hc : c.ok) (hk : okM M = true) (hn : n < 256) : Inv M (1, c.pc, peekN M c.pc) 4 (stepM c M n) := by
  have h := stepP_inv hc hk
  unfold stepM
  split
  · exact h.more (by omega)
  · have hs1 : (c.pc + 1) % 256 < 256 := Nat.mod_lt _ (by decide)
    have hs2 : (c.pc + 2) % 256 < 256 := Nat.mod_lt _ (by decide)
    have hpc : c.pc < 256 := hc.2.2.2.2.2.2.2.2.2
    have b1 := (peek_byte hk hpc).2
    have b2 := (peek_byte hk hs1).2
    obtain ⟨h0, h1, h2, h3, h4, h5, h6, h7, h8, h9⟩ := hc
    have hq : Inv M (1, c.pc, peekN M c.pc) 2 (stepQ c M) := by
      unfold stepQ
      split
      · exact ((h.cpu { c with ei := false, pc := (c.pc + 1) % 256 } ⟨h0, h1, h2, h3, h4, h5, h6, h7, h8, hs1⟩ (fun e => by cases e)).read ((c.pc + 1) % 256) hs1).cpu { c with ei := false, pc := (c.pc + 2) % 256 } ⟨h0, h1, h2, h3, h4, h5, h6, h7, h8, hs2⟩ (fun e => by cases e)
      · exact (h.cpu { c with ei := false, pc := (c.pc + 1) % 256 } ⟨h0, h1, h2, h3, h4, h5, h6, h7, h8, hs1⟩ (fun e => by cases e)).more (by omega)
    have ka : (decA (peekN M c.pc)).toNat < 8 := by
      have : 0 ≤ decA (peekN M c.pc) ∧ decA (peekN M c.pc) < 8 := by unfold decA; split; omega; split <;> omega
      omega
    have km : (decN (peekN M c.pc) (peekN M ((c.pc + 1) % 256))).toNat < 256 := by
      have : 0 ≤ decN (peekN M c.pc) (peekN M ((c.pc + 1) % 256)) ∧ decN (peekN M c.pc) (peekN M ((c.pc + 1) % 256)) < 256 := by unfold decN; split; omega; split <;> omega
      omega
    exact hq.run n _ _ _ hn ka km _
end Go.Proofs.YtgpmpfikeindfaaGreatDoor
