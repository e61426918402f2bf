/- A snapshot is read: the banks as plain lists, the snapshot while it is being made. -/
import Derived.Test.YtghcagibdcblnaaDoorEor
import Derived.Test.YtghcagibdcblnaaDoorR22
import Derived.Test.YtghcagibdcblnaaDoorR24
namespace Go.Proofs.YtghcagibdcblnaaDoor
open Go.ChangeShapes Go.WideShapes Go.ChangeAt Go.RowKit
set_option linter.unusedVariables false
set_option linter.unusedSimpArgs false

theorem expL_ok (n : Nat) : ∀ (f : Nat) (L out : List Int), (expL n f L out).2 = 0 → (expL n f L out).1.length = n
  | f, [], out => by
    rw [expL_nil]
    split
    · intro _; assumption
    · intro h; cases h
  | 0, x :: L, out => by
    intro h
    unfold expL at h ⊢
    split at h
    · rename_i h1
      rw [if_pos h1]
      exact h1
    · cases h
  | f + 1, x :: L, out => by
    rw [expL_cons]
    split
    · split
      · split
        · intro h; cases h
        · intro h; exact expL_ok n f _ _ h
      · intro h; cases h
    · split
      · intro h; cases h
      · intro h; exact expL_ok n f _ _ h
theorem expL_mem (n : Nat) : ∀ (f : Nat) (L out : List Int) (x : Int), x ∈ (expL n f L out).1 → x ∈ L ∨ x ∈ out
  | f, [], out, x => by
    rw [expL_nil]
    split
    · intro h; exact .inr h
    · intro h; cases h
  | 0, y :: L, out, x => by
    intro h
    unfold expL at h
    split at h
    · exact .inr h
    · cases h
  | f + 1, y :: L, out, x => by
    rw [expL_cons]
    split
    · split
      · split
        · intro h; cases h
        · intro h
          rcases expL_mem n f _ _ _ h with h | h
          · exact .inl (by simp [h])
          · rcases List.mem_append.1 h with h | h
            · exact .inr h
            · have := List.eq_of_mem_replicate h
              exact .inl (by simp [this])
      · intro h; cases h
    · split
      · intro h; cases h
      · intro h
        rcases expL_mem n f _ _ _ h with h | h
        · exact .inl (List.mem_cons_of_mem _ h)
        · rcases List.mem_append.1 h with h | h
          · exact .inr h
          · simp at h
            exact .inl (by simp [h])
/-- a bank that was expanded has 64 bytes -/
theorem bank_ok {p : ByteArray} (h : (expE 64 (bts p) []).2 = 0) : (strOfNums (expE 64 (bts p) []).1).size = 64 ∧ bts (strOfNums (expE 64 (bts p) []).1) = (expE 64 (bts p) []).1 := by
  refine ⟨?_, ?_⟩
  · rw [strOfNums_size]
    exact expL_ok 64 _ _ _ h
  · refine bts_str (fun x hx => ?_)
    rcases expL_mem 64 _ _ _ x hx with h1 | h1
    · exact bts_all p x h1
    · cases h1
theorem rdB_none (k : Nat) {M : List Int} (h : M.length < 2) : (rdB (k + 1) M).2.2 = 9 := by
  match M, h with
  | [], _ => rfl
  | [_], _ => rfl
/-- a bank is read at a place of a text -/
theorem rdB_at (k : Nat) {t : ByteArray} {p n : Nat} (h : p + 1 < t.size) (hn : byt t p + 256 * byt t (p + 1) = (n : Int)) : rdB (k + 1) ((bts t).drop p) =
    if t.size < p + 2 + n then ([], [], 9) else if (expE 64 (bts (t.extract (p + 2) (p + 2 + n))) []).2 = 0 then
      (if (rdB k ((bts t).drop (p + 2 + n))).2.2 = 0 then ((expE 64 (bts (t.extract (p + 2) (p + 2 + n))) []).1 :: (rdB k ((bts t).drop (p + 2 + n))).1, (rdB k ((bts t).drop (p + 2 + n))).2.1, 0) else ([], [], (rdB k ((bts t).drop (p + 2 + n))).2.2))
    else ([], [], (expE 64 (bts (t.extract (p + 2) (p + 2 + n))) []).2) := by
  rw [bts_drop t (show p < t.size by omega), bts_drop t h]
  show (if ((bts t).drop (p + 1 + 1)).length < (byt t p + 256 * byt t (p + 1)).toNat then _ else _) = _
  have e0 : p + 1 + 1 = p + 2 := rfl
  rw [hn, Int.toNat_natCast, e0, List.length_drop, bts_len]
  have e1 : bts (t.extract (p + 2) (p + 2 + n)) = ((bts t).drop (p + 2)).take n := by
    rw [bts_extract]
    congr 1
    omega
  have e2 : ((bts t).drop (p + 2)).drop n = (bts t).drop (p + 2 + n) := by rw [List.drop_drop]
  rw [e1, e2]
  by_cases hc : t.size < p + 2 + n
  · rw [if_pos hc, if_pos (by omega)]
  · rw [if_neg hc, if_neg (by omega)]
/-- how far the banks are read -/
structure Bk (t : ByteArray) (i p : Nat) (B : List (List Int)) : Prop where
  len : B.length = i
  sixty : ∀ b ∈ B, b.length = 64
  code : (rdB 4 ((bts t).drop 15)).2.2 = (rdB (4 - i) ((bts t).drop p)).2.2
  rest : (rdB (4 - i) ((bts t).drop p)).2.2 = 0 → (rdB 4 ((bts t).drop 15)).2.1 = (rdB (4 - i) ((bts t).drop p)).2.1 ∧ (rdB 4 ((bts t).drop 15)).1 = B ++ (rdB (4 - i) ((bts t).drop p)).1
theorem Bk.start (t : ByteArray) : Bk t 0 15 [] := ⟨rfl, fun b h => (by cases h), rfl, fun _ => ⟨rfl, rfl⟩⟩
theorem Bk.none {t : ByteArray} {i p : Nat} {B : List (List Int)} (h : Bk t i p B) (hi : i < 4) (hp : ¬ p + 1 < t.size) : (rdB 4 ((bts t).drop 15)).2.2 = 9 := by
  rw [h.code]
  obtain ⟨k, hk⟩ : ∃ k, 4 - i = k + 1 := ⟨3 - i, by omega⟩
  rw [hk]
  exact rdB_none k (by rw [List.length_drop, bts_len]; omega)
theorem Bk.cut {t : ByteArray} {i p n : Nat} {B : List (List Int)} (h : Bk t i p B) (hi : i < 4) (hp : p + 1 < t.size) (hn : byt t p + 256 * byt t (p + 1) = (n : Int)) (hc : t.size < p + 2 + n) : (rdB 4 ((bts t).drop 15)).2.2 = 9 := by
  rw [h.code]
  obtain ⟨k, hk⟩ : ∃ k, 4 - i = k + 1 := ⟨3 - i, by omega⟩
  rw [hk, rdB_at k hp hn, if_pos hc]
theorem Bk.bad {t : ByteArray} {i p n : Nat} {B : List (List Int)} (h : Bk t i p B) (hi : i < 4) (hp : p + 1 < t.size) (hn : byt t p + 256 * byt t (p + 1) = (n : Int)) (hc : ¬ t.size < p + 2 + n) (hx : (expE 64 (bts (t.extract (p + 2) (p + 2 + n))) []).2 ≠ 0) : (rdB 4 ((bts t).drop 15)).2.2 = (expE 64 (bts (t.extract (p + 2) (p + 2 + n))) []).2 := by
  rw [h.code]
  obtain ⟨k, hk⟩ : ∃ k, 4 - i = k + 1 := ⟨3 - i, by omega⟩
  rw [hk, rdB_at k hp hn, if_neg hc, if_neg hx]
theorem Bk.next {t : ByteArray} {i p n : Nat} {B : List (List Int)} (h : Bk t i p B) (hi : i < 4) (hp : p + 1 < t.size) (hn : byt t p + 256 * byt t (p + 1) = (n : Int)) (hc : ¬ t.size < p + 2 + n) (hx : (expE 64 (bts (t.extract (p + 2) (p + 2 + n))) []).2 = 0) : Bk t (i + 1) (p + 2 + n) (B ++ [(expE 64 (bts (t.extract (p + 2) (p + 2 + n))) []).1]) := by
  obtain ⟨k, hk⟩ : ∃ k, 4 - i = k + 1 := ⟨3 - i, by omega⟩
  have hk2 : 4 - (i + 1) = k := by omega
  obtain ⟨h1, h2, h3, h4⟩ := h
  rw [hk, rdB_at k hp hn, if_neg hc, if_pos hx] at h3 h4
  refine ⟨by rw [List.length_append, h1]; rfl, fun b hb => ?_, ?_, fun h0 => ?_⟩
  · rcases List.mem_append.1 hb with hb | hb
    · exact h2 b hb
    · rw [List.mem_singleton.1 hb]
      exact expL_ok 64 _ _ _ hx
  · rw [hk2, h3]
    split
    · rename_i h0; rw [h0]
    · rfl
  · rw [hk2] at h0 ⊢
    rw [if_pos h0] at h4
    obtain ⟨a1, a2⟩ := h4 rfl
    refine ⟨a1, ?_⟩
    rw [a2, List.append_assoc]
    rfl
/-- a byte is laid into a bank -/
theorem memO_poke {W : World} {lo hi i k : Nat} {vr vm : Value} {M : Mem} (h : MemO W lo hi (memV vr vm M.page M.screen M.locked) M) (hi' : i < M.ram.length) (hk : k < (M.ram.getD i []).length) :
    ∃ s c g cg, vm = .slice (some ⟨s, 0, none⟩) M.ram.length c ∧ W.cell? ⟨s, i, none⟩ = some (.slice (some ⟨g, 0, none⟩) (M.ram.getD i []).length cg) ∧ (∃ u, W.cell? ⟨g, k, none⟩ = some u) ∧ W.frozen? ⟨g, k, none⟩ = false ∧ (lo ≤ g ∧ g < hi) ∧ (lo ≤ s ∧ s < hi) ∧ s ≠ g ∧ g < W.heap.size ∧
      ∀ z, MemO (W.setCell ⟨g, k, none⟩ (.int .i64 z)) lo hi (memV vr vm M.page M.screen M.locked) { M with ram := M.ram.set i ((M.ram.getD i []).set k z) } := by
  rcases h with ⟨_, _, e2⟩ | ⟨vr', vm', r, s, G, e, h1, ⟨cap, c, t, V, hv, hs, hc, hrow⟩, b1, b2, b3, d1, d2, d3⟩
  · rw [e2] at hi'
    cases hi'
  · simp only [Value.agg.injEq, Array.mk.injEq, List.cons.injEq] at e
    obtain ⟨rfl, rfl, _⟩ := e
    have hr := hrow i hi'
    have hrc := hr.cell k hk
    have hrf := hr.frozen k
    have hrl := hr.lt
    obtain ⟨cg, cc, tt, hV, hg, hcc⟩ := id hr
    have b3i := b3 i hi'
    have d2i := d2 i hi'
    refine ⟨s, cap, G i, cg, hv, ?_, ⟨_, hrc⟩, hrf, b3i, b2, fun e => d2i.2 e.symm, hrl, fun z => ?_⟩
    · rw [← hV]
      simp [World.cell?, hs, hc i hi']
    · have ko : ∀ b, b ≠ G i → (W.setCell ⟨G i, k, none⟩ (.int .i64 z)).heap[b]? = W.heap[b]? := fun b hb => Below.heap_setCell _ _ _ _ hb
      refine .inr ⟨vr, vm, r, s, G, rfl, h1.kept (ko r (fun e => d2i.1 e.symm)), ⟨cap, c, t, V, by rw [List.length_set]; exact hv, (ko s (fun e => d2i.2 e.symm)).trans hs, fun j hj => hc j (by rw [List.length_set] at hj; exact hj), fun j hj => ?_⟩, b1, b2, fun j hj => b3 j (by rw [List.length_set] at hj; exact hj), d1, fun j hj => d2 j (by rw [List.length_set] at hj; exact hj), fun j j' hj hj' => d3 j j' (by rw [List.length_set] at hj; exact hj) (by rw [List.length_set] at hj'; exact hj')⟩
      rw [List.length_set] at hj
      by_cases e : i = j
      · subst e
        have e1 : (M.ram.set i ((M.ram.getD i []).set k z)).getD i [] = (M.ram.getD i []).set k z := by
          rw [List.getD_eq_getElem?_getD, List.getElem?_set_self hj]
          rfl
        rw [e1]
        exact hr.set k z
      · have e1 : (M.ram.set i ((M.ram.getD i []).set k z)).getD j [] = M.ram.getD j [] := by
          rw [List.getD_eq_getElem?_getD, List.getElem?_set_ne e, ← List.getD_eq_getElem?_getD]
        rw [e1]
        exact (hrow j hj).kept (ko _ (fun e2 => e (d3 j i hj hi' e2).symm))
theorem bits_all : ∀ b : Fin 256, ((bits .and .i64 (b.val : Int) 1 != 0) = bitAt b.val 1 ∧ (bits .and .i64 (b.val : Int) 2 != 0) = bitAt b.val 2 ∧ (bits .and .i64 (b.val : Int) 4 != 0) = bitAt b.val 4 ∧ (bits .and .i64 (b.val : Int) 8 != 0) = bitAt b.val 8 ∧ bits .and .i64 ((b.val : Int) / 16) 1 = (b.val : Int) / 16 % 2) := by decide +kernel
theorem ula_bits : ∀ b : Fin 256, (((Nat.land b.val 7 : Nat) : Int) = (b.val : Int) % 8 ∧ micN b.val = bitAt b.val 8 ∧ beepN b.val = bitAt b.val 16) := by decide +kernel
theorem ula_pos {u : Nat} (h : u ≤ 255) : neP.ula u = poS (u : Int) := by
  obtain ⟨h1, h2, h3⟩ := ula_bits ⟨u, by omega⟩
  dsimp only at h1 h2 h3
  show (⟨31, 31, 31, 31, 31, 31, 31, 31, 0, ((Nat.land u 7 : Nat) : Int), micN u, beepN u⟩ : Po) = ⟨31, 31, 31, 31, 31, 31, 31, 31, 0, (u : Int) % 8, bitAt u 8, bitAt u 16⟩
  rw [h1, h2, h3]
end Go.Proofs.YtghcagibdcblnaaDoor
