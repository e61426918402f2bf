/- How many bytes of a row are as its first one: the program; RunAt. -/
import Derived.Test.YtghcagibdcblnaaGreatDoorF21
import Derived.Lib.ConvBytes
import Derived.Test.YtghcagibdcblnaaGreatDoorF20
namespace Go.Proofs.YtghcagibdcblnaaGreatDoor
open Go.ChangeShapes Go.WideShapes Go.ChangeAt Go.RowKit
set_option linter.unusedVariables false
set_option linter.unusedSimpArgs false

/-- a block holds the bytes of a text, and perhaps more behind them -/
def CellsT (W : World) (B : Nat) (t : ByteArray) : Prop := ∀ j, j < t.size → W.cell? ⟨B, j, none⟩ = some (.int .u8 (byt t j))
theorem CellsT.same {W W' : World} {B : Nat} {t : ByteArray} (h : CellsT W B t) (e : W'.heap[B]? = W.heap[B]?) : CellsT W' B t := fun j hj => (World.cell?_of_block (a := ⟨B, j, none⟩) e).trans (h j hj)
theorem runM_go {t : ByteArray} {b : Int} {M i n : Nat} (hn : n < M) (h : i + n < t.size) (he : byt t (i + n) = b) : runH (M - n) b ((bts t).drop (i + n)) = runH (M - (n + 1)) b ((bts t).drop (i + (n + 1))) + 1 := by
  rw [bts_drop t h]
  obtain ⟨f, hf⟩ : ∃ f, M - n = f + 1 := ⟨M - n - 1, by omega⟩
  have e : M - (n + 1) = f := by omega
  rw [hf, e]
  show (if byt t (i + n) = b then _ else _) = _
  rw [if_pos he]
  rfl
theorem runM_stop {t : ByteArray} {b : Int} {M i n : Nat} (h : ¬ n < M ∨ (i + n < t.size ∧ byt t (i + n) ≠ b)) : runH (M - n) b ((bts t).drop (i + n)) = 0 := by
  rcases h with h | ⟨h1, h2⟩
  · rw [show M - n = 0 by omega]
    rfl
  · rw [bts_drop t h1]
    cases (M - n) with
    | zero => rfl
    | succ f =>
      show (if byt t (i + n) = b then _ else _) = _
      rw [if_neg h2]
/-- no more than the list has -/
theorem runH_min : ∀ (f : Nat) (b : Int) (L : List Int), runH (min f L.length) b L = runH f b L
  | 0, b, L => by simp
  | f + 1, b, [] => by simp [runH]
  | f + 1, b, x :: L => by
    have e : min (f + 1) (x :: L).length = min f L.length + 1 := by simp
    rw [e]
    show (if x = b then runH (min f L.length) b L + 1 else 0) = (if x = b then runH f b L + 1 else 0)
    rw [runH_min f b L]
theorem byt_extract (t : ByteArray) {i e j : Nat} (h : i + j < e) (he : e ≤ t.size) : byt (t.extract i e) j = byt t (i + j) := by
  unfold byt
  simp only [ByteArray.data_extract, Array.toList_extract, List.extract_eq_take_drop]
  rw [List.getD_eq_getElem?_getD, List.getD_eq_getElem?_getD, List.getElem?_take, if_pos (by omega), List.getElem?_drop]
theorem bts_extract (t : ByteArray) (i e : Nat) : bts (t.extract i e) = ((bts t).drop i).take (e - i) := by
  unfold bts
  simp only [ByteArray.data_extract, Array.toList_extract, List.extract_eq_take_drop, List.map_take, List.map_drop]
set_option maxRecDepth 100000 in
set_option maxHeartbeats 1000000 in
theorem alike_impl (t : ByteArray) (k m B cap : Nat) (w : World) (hc : CellsT w B t) (hm : 1 ≤ m) (hk : k + m ≤ t.size) (ht : t.size ≤ 1048576) : Calls Tryz.prog 95 #[.slice (some ⟨B, k, none⟩) m cap] w fun e w' => e = .returned (.int .i64 (runH m (byt t k) ((bts t).drop k) : Nat)) ∧ ∃ n, w' = w.drewN n := by
  have hxk := hc k (by omega)
  have hgo := hid (fun n => runM_go (t := t) (b := byt t k) (M := m) (i := k) (n := n))
  have hst := hid (fun n => runM_stop (t := t) (b := byt t k) (M := m) (i := k) (n := n))
  obtain ⟨R, hR⟩ : ∃ R : Nat → Nat, (fun n => runH (m - n) (byt t k) ((bts t).drop (k + n))) = R := ⟨_, rfl⟩
  have hR2 : Hid (∀ n, runH (m - n) (byt t k) ((bts t).drop (k + n)) = R n) := fun n => by rw [← hR]
  have h0 : Hid (runH m (byt t k) ((bts t).drop k) = R 0) := by unfold Hid; rw [← hR2.out 0]; simp
  have h1 : Hid (1 + R 1 = R 0) := by
    have h := hgo.out 0 (by omega) (by omega) rfl
    rw [hR2.out 0, hR2.out (0 + 1), Nat.zero_add] at h
    unfold Hid
    omega
  clear hR
  generalize hX : byt t k = X at hxk
  replace hX := hid hX
  replace hc := hid hc
  go_enter Tryz.func95, Tryz.ntmps95
  go_wp2
  go_loopw [3] (fun nv wr => ∃ n : Nat, 1 ≤ n ∧ n ≤ m ∧ nv = .int .i64 (n : Int) ∧ n + R n = R 0 ∧ ∃ j, wr = w.drewN j) (fun nv _ => m - (intOf nv).toNat)
  case atStart => exact ⟨1, by omega, by omega, rfl, h1.out, 0, rfl⟩
  case round =>
    obtain ⟨n, hn1, hnm, rfl, hB, j, rfl⟩ := hrel
    have hg2 := fun h2 h1 h3 => hgo.out n h2 h1 h3
    have hs2 := fun h => hst.out n h
    rw [hR2.out n, hR2.out (n + 1)] at hg2
    rw [hR2.out n] at hs2
    replace hg2 := hid hg2
    replace hs2 := hid hs2
    clear hgo hst hR2
    by_cases h2 : n < m
    · have hx := hc.out (k + n) (by omega)
      by_cases h3 : byt t (k + n) = byt t k
      · have hE := hid (hg2.out h2 (by omega) h3)
        rw [h3, hX.out] at hx
        have hbb : (X == X) = true := by simp
        clear hg2 hs2 h3
        go_wp2
        go_quiet (fail)
        go_wp2
        go_roundw
        case rel => exact ⟨n + 1, by omega, by omega, by go_num, by have := hE.out; omega, j + nq, by first | rfl | rw [World.drewN_drewN]⟩
        case measure => simp [intOf]; omega
      · have hE := hs2.out (.inr ⟨by omega, h3⟩)
        rw [hX.out] at h3
        generalize byt t (k + n) = Y at *
        have hbb : (Y == X) = false := by rw [beq_eq_false_iff_ne]; exact h3
        have hE2 : Hid (n = R 0) := by unfold Hid; omega
        clear hg2 hs2 h3 hE hB
        go_wp2
        go_quiet (fail)
        go_wp2
        go_ret
        exact ⟨ret_int (by rw [← hX.out, h0.out, ← hE2.out]), j + nq, by first | rfl | rw [World.drewN_drewN]⟩
    · have c2 : decide ((n : Int) < (m : Int)) = false := decide_eq_false (by omega)
      have hE := hs2.out (.inl h2)
      have hE2 : Hid (n = R 0) := by unfold Hid; omega
      clear hg2 hs2 hE hB hxk
      go_wp2
      go_quiet (fail)
      go_wp2
      go_ret
      exact ⟨ret_int (by rw [← hX.out, h0.out, ← hE2.out]), j + nq, by first | rfl | rw [World.drewN_drewN]⟩
/-- the world behind '[]byte(s)' and what it holds -/
theorem convT (s : ByteArray) (w : World) : ∃ cp w2, (convert 9 22 (.string s)).run Tryz.prog w = .ok (.slice (some ⟨w.heap.size, 0, none⟩) s.size cp) w2 ∧ s.size ≤ cp ∧ CellsT w2 w.heap.size s ∧ w2.heap.size = w.heap.size + 1 ∧ Below w.heap.size w w2 := by
  have h := Lib.run_convert_string_bytes (P := Tryz.prog) w 9 22 5 s Tryz.underlying9 Tryz.underlying22 Tryz.underlying5
  refine ⟨_, _, h, ?_, fun i hi => ?_, ?_, ?_⟩
  · exact grownCap_ge _ _ _ _
  · have := Lib.bytesWorld_cell w 5 s i hi
    rw [this]
    rfl
  · rw [Lib.bytesWorld_size]
  · refine ⟨rfl, rfl, rfl, ?_, fun k hk => ?_⟩
    · rw [Lib.bytesWorld_size]; omega
    · rw [Lib.bytesWorld_at_old _ _ _ _ hk]
theorem withinL_impl (n a b : Int) (w : World) : Calls Tryz.prog 56 #[.int .i64 n, .int .i64 a, .int .i64 b] w fun e w' => e = .returned (.bool (inB n a b)) ∧ w' = w := by
  unfold inB
  by_cases h0 : a ≤ n
  · by_cases h1 : n ≤ b
    · rw [decide_eq_true ⟨h0, h1⟩]
      go_enter Tryz.func56, Tryz.ntmps56
      go_wp2
      go_ret
      exact ⟨rfl, rfl⟩
    · rw [decide_eq_false (fun h => h1 h.2)]
      go_enter Tryz.func56, Tryz.ntmps56
      go_wp2
      go_ret
      exact ⟨rfl, rfl⟩
  · rw [decide_eq_false (fun h => h0 h.1)]
    go_enter Tryz.func56, Tryz.ntmps56
    go_wp2
    go_ret
    exact ⟨rfl, rfl⟩
end Go.Proofs.YtghcagibdcblnaaGreatDoor

/- A snapshot is read: the banks as plain lists, the snapshot while it is being made. -/
namespace Go.Proofs.YtghcagibdcblnaaGreatDoor
open Go.ChangeShapes Go.WideShapes Go.ChangeAt Go.RowKit
set_option linter.unusedVariables false
set_option linter.unusedSimpArgs false

theorem expL_ok (n : Nat) : ∀ (f : Nat) (L out : List Int), (expL n f L out).2 = 0 → (expL n f L out).1.length = n
  | f, [], out => by
    rw [expL_nil]
    split
    · intro _; assumption
    · intro h; cases h
  | 0, x :: L, out => by
    intro h
    unfold expL at h ⊢
    split at h
    · rename_i h1
      rw [if_pos h1]
      exact h1
    · cases h
  | f + 1, x :: L, out => by
    rw [expL_cons]
    split
    · split
      · split
        · intro h; cases h
        · intro h; exact expL_ok n f _ _ h
      · intro h; cases h
    · split
      · intro h; cases h
      · intro h; exact expL_ok n f _ _ h
theorem expL_mem (n : Nat) : ∀ (f : Nat) (L out : List Int) (x : Int), x ∈ (expL n f L out).1 → x ∈ L ∨ x ∈ out
  | f, [], out, x => by
    rw [expL_nil]
    split
    · intro h; exact .inr h
    · intro h; cases h
  | 0, y :: L, out, x => by
    intro h
    unfold expL at h
    split at h
    · exact .inr h
    · cases h
  | f + 1, y :: L, out, x => by
    rw [expL_cons]
    split
    · split
      · split
        · intro h; cases h
        · intro h
          rcases expL_mem n f _ _ _ h with h | h
          · exact .inl (by simp [h])
          · rcases List.mem_append.1 h with h | h
            · exact .inr h
            · have := List.eq_of_mem_replicate h
              exact .inl (by simp [this])
      · intro h; cases h
    · split
      · intro h; cases h
      · intro h
        rcases expL_mem n f _ _ _ h with h | h
        · exact .inl (List.mem_cons_of_mem _ h)
        · rcases List.mem_append.1 h with h | h
          · exact .inr h
          · simp at h
            exact .inl (by simp [h])
/-- a bank that was expanded has 64 bytes -/
theorem bank_ok {p : ByteArray} (h : (expE 64 (bts p) []).2 = 0) : (strOfNums (expE 64 (bts p) []).1).size = 64 ∧ bts (strOfNums (expE 64 (bts p) []).1) = (expE 64 (bts p) []).1 := by
  refine ⟨?_, ?_⟩
  · rw [strOfNums_size]
    exact expL_ok 64 _ _ _ h
  · refine bts_str (fun x hx => ?_)
    rcases expL_mem 64 _ _ _ x hx with h1 | h1
    · exact bts_all p x h1
    · cases h1
theorem rdB_none (k : Nat) {M : List Int} (h : M.length < 2) : (rdB (k + 1) M).2.2 = 9 := by
  match M, h with
  | [], _ => rfl
  | [_], _ => rfl
/-- a bank is read at a place of a text -/
theorem rdB_at (k : Nat) {t : ByteArray} {p n : Nat} (h : p + 1 < t.size) (hn : byt t p + 256 * byt t (p + 1) = (n : Int)) : rdB (k + 1) ((bts t).drop p) =
    if t.size < p + 2 + n then ([], [], 9) else if (expE 64 (bts (t.extract (p + 2) (p + 2 + n))) []).2 = 0 then
      (if (rdB k ((bts t).drop (p + 2 + n))).2.2 = 0 then ((expE 64 (bts (t.extract (p + 2) (p + 2 + n))) []).1 :: (rdB k ((bts t).drop (p + 2 + n))).1, (rdB k ((bts t).drop (p + 2 + n))).2.1, 0) else ([], [], (rdB k ((bts t).drop (p + 2 + n))).2.2))
    else ([], [], (expE 64 (bts (t.extract (p + 2) (p + 2 + n))) []).2) := by
  rw [bts_drop t (show p < t.size by omega), bts_drop t h]
  show (if ((bts t).drop (p + 1 + 1)).length < (byt t p + 256 * byt t (p + 1)).toNat then _ else _) = _
  have e0 : p + 1 + 1 = p + 2 := rfl
  rw [hn, Int.toNat_natCast, e0, List.length_drop, bts_len]
  have e1 : bts (t.extract (p + 2) (p + 2 + n)) = ((bts t).drop (p + 2)).take n := by
    rw [bts_extract]
    congr 1
    omega
  have e2 : ((bts t).drop (p + 2)).drop n = (bts t).drop (p + 2 + n) := by rw [List.drop_drop]
  rw [e1, e2]
  by_cases hc : t.size < p + 2 + n
  · rw [if_pos hc, if_pos (by omega)]
  · rw [if_neg hc, if_neg (by omega)]
/-- how far the banks are read -/
structure Bk (t : ByteArray) (i p : Nat) (B : List (List Int)) : Prop where
  len : B.length = i
  sixty : ∀ b ∈ B, b.length = 64
  code : (rdB 4 ((bts t).drop 15)).2.2 = (rdB (4 - i) ((bts t).drop p)).2.2
  rest : (rdB (4 - i) ((bts t).drop p)).2.2 = 0 → (rdB 4 ((bts t).drop 15)).2.1 = (rdB (4 - i) ((bts t).drop p)).2.1 ∧ (rdB 4 ((bts t).drop 15)).1 = B ++ (rdB (4 - i) ((bts t).drop p)).1
theorem Bk.start (t : ByteArray) : Bk t 0 15 [] := ⟨rfl, fun b h => (by cases h), rfl, fun _ => ⟨rfl, rfl⟩⟩
theorem Bk.none {t : ByteArray} {i p : Nat} {B : List (List Int)} (h : Bk t i p B) (hi : i < 4) (hp : ¬ p + 1 < t.size) : (rdB 4 ((bts t).drop 15)).2.2 = 9 := by
  rw [h.code]
  obtain ⟨k, hk⟩ : ∃ k, 4 - i = k + 1 := ⟨3 - i, by omega⟩
  rw [hk]
  exact rdB_none k (by rw [List.length_drop, bts_len]; omega)
theorem Bk.cut {t : ByteArray} {i p n : Nat} {B : List (List Int)} (h : Bk t i p B) (hi : i < 4) (hp : p + 1 < t.size) (hn : byt t p + 256 * byt t (p + 1) = (n : Int)) (hc : t.size < p + 2 + n) : (rdB 4 ((bts t).drop 15)).2.2 = 9 := by
  rw [h.code]
  obtain ⟨k, hk⟩ : ∃ k, 4 - i = k + 1 := ⟨3 - i, by omega⟩
  rw [hk, rdB_at k hp hn, if_pos hc]
theorem Bk.bad {t : ByteArray} {i p n : Nat} {B : List (List Int)} (h : Bk t i p B) (hi : i < 4) (hp : p + 1 < t.size) (hn : byt t p + 256 * byt t (p + 1) = (n : Int)) (hc : ¬ t.size < p + 2 + n) (hx : (expE 64 (bts (t.extract (p + 2) (p + 2 + n))) []).2 ≠ 0) : (rdB 4 ((bts t).drop 15)).2.2 = (expE 64 (bts (t.extract (p + 2) (p + 2 + n))) []).2 := by
  rw [h.code]
  obtain ⟨k, hk⟩ : ∃ k, 4 - i = k + 1 := ⟨3 - i, by omega⟩
  rw [hk, rdB_at k hp hn, if_neg hc, if_neg hx]
theorem Bk.next {t : ByteArray} {i p n : Nat} {B : List (List Int)} (h : Bk t i p B) (hi : i < 4) (hp : p + 1 < t.size) (hn : byt t p + 256 * byt t (p + 1) = (n : Int)) (hc : ¬ t.size < p + 2 + n) (hx : (expE 64 (bts (t.extract (p + 2) (p + 2 + n))) []).2 = 0) : Bk t (i + 1) (p + 2 + n) (B ++ [(expE 64 (bts (t.extract (p + 2) (p + 2 + n))) []).1]) := by
  obtain ⟨k, hk⟩ : ∃ k, 4 - i = k + 1 := ⟨3 - i, by omega⟩
  have hk2 : 4 - (i + 1) = k := by omega
  obtain ⟨h1, h2, h3, h4⟩ := h
  rw [hk, rdB_at k hp hn, if_neg hc, if_pos hx] at h3 h4
  refine ⟨by rw [List.length_append, h1]; rfl, fun b hb => ?_, ?_, fun h0 => ?_⟩
  · rcases List.mem_append.1 hb with hb | hb
    · exact h2 b hb
    · rw [List.mem_singleton.1 hb]
      exact expL_ok 64 _ _ _ hx
  · rw [hk2, h3]
    split
    · rename_i h0; rw [h0]
    · rfl
  · rw [hk2] at h0 ⊢
    rw [if_pos h0] at h4
    obtain ⟨a1, a2⟩ := h4 rfl
    refine ⟨a1, ?_⟩
    rw [a2, List.append_assoc]
    rfl
/-- a byte is laid into a bank -/
theorem memO_poke {W : World} {lo hi i k : Nat} {vr vm : Value} {M : Mem} (h : MemO W lo hi (memV vr vm M.page M.screen M.locked) M) (hi' : i < M.ram.length) (hk : k < (M.ram.getD i []).length) :
    ∃ s c g cg, vm = .slice (some ⟨s, 0, none⟩) M.ram.length c ∧ W.cell? ⟨s, i, none⟩ = some (.slice (some ⟨g, 0, none⟩) (M.ram.getD i []).length cg) ∧ (∃ u, W.cell? ⟨g, k, none⟩ = some u) ∧ W.frozen? ⟨g, k, none⟩ = false ∧ (lo ≤ g ∧ g < hi) ∧ (lo ≤ s ∧ s < hi) ∧ s ≠ g ∧ g < W.heap.size ∧
      ∀ z, MemO (W.setCell ⟨g, k, none⟩ (.int .i64 z)) lo hi (memV vr vm M.page M.screen M.locked) { M with ram := M.ram.set i ((M.ram.getD i []).set k z) } := by
  rcases h with ⟨_, _, e2⟩ | ⟨vr', vm', r, s, G, e, h1, ⟨cap, c, t, V, hv, hs, hc, hrow⟩, b1, b2, b3, d1, d2, d3⟩
  · rw [e2] at hi'
    cases hi'
  · simp only [Value.agg.injEq, Array.mk.injEq, List.cons.injEq] at e
    obtain ⟨rfl, rfl, _⟩ := e
    have hr := hrow i hi'
    have hrc := hr.cell k hk
    have hrf := hr.frozen k
    have hrl := hr.lt
    obtain ⟨cg, cc, tt, hV, hg, hcc⟩ := id hr
    have b3i := b3 i hi'
    have d2i := d2 i hi'
    refine ⟨s, cap, G i, cg, hv, ?_, ⟨_, hrc⟩, hrf, b3i, b2, fun e => d2i.2 e.symm, hrl, fun z => ?_⟩
    · rw [← hV]
      simp [World.cell?, hs, hc i hi']
    · have ko : ∀ b, b ≠ G i → (W.setCell ⟨G i, k, none⟩ (.int .i64 z)).heap[b]? = W.heap[b]? := fun b hb => Below.heap_setCell _ _ _ _ hb
      refine .inr ⟨vr, vm, r, s, G, rfl, h1.kept (ko r (fun e => d2i.1 e.symm)), ⟨cap, c, t, V, by rw [List.length_set]; exact hv, (ko s (fun e => d2i.2 e.symm)).trans hs, fun j hj => hc j (by rw [List.length_set] at hj; exact hj), fun j hj => ?_⟩, b1, b2, fun j hj => b3 j (by rw [List.length_set] at hj; exact hj), d1, fun j hj => d2 j (by rw [List.length_set] at hj; exact hj), fun j j' hj hj' => d3 j j' (by rw [List.length_set] at hj; exact hj) (by rw [List.length_set] at hj'; exact hj')⟩
      rw [List.length_set] at hj
      by_cases e : i = j
      · subst e
        have e1 : (M.ram.set i ((M.ram.getD i []).set k z)).getD i [] = (M.ram.getD i []).set k z := by
          rw [List.getD_eq_getElem?_getD, List.getElem?_set_self hj]
          rfl
        rw [e1]
        exact hr.set k z
      · have e1 : (M.ram.set i ((M.ram.getD i []).set k z)).getD j [] = M.ram.getD j [] := by
          rw [List.getD_eq_getElem?_getD, List.getElem?_set_ne e, ← List.getD_eq_getElem?_getD]
        rw [e1]
        exact (hrow j hj).kept (ko _ (fun e2 => e (d3 j i hj hi' e2).symm))
theorem bits_all : ∀ b : Fin 256, ((bits .and .i64 (b.val : Int) 1 != 0) = bitAt b.val 1 ∧ (bits .and .i64 (b.val : Int) 2 != 0) = bitAt b.val 2 ∧ (bits .and .i64 (b.val : Int) 4 != 0) = bitAt b.val 4 ∧ (bits .and .i64 (b.val : Int) 8 != 0) = bitAt b.val 8 ∧ bits .and .i64 ((b.val : Int) / 16) 1 = (b.val : Int) / 16 % 2) := by decide +kernel
theorem ula_bits : ∀ b : Fin 256, (((Nat.land b.val 7 : Nat) : Int) = (b.val : Int) % 8 ∧ micN b.val = bitAt b.val 8 ∧ beepN b.val = bitAt b.val 16) := by decide +kernel
theorem ula_pos {u : Nat} (h : u ≤ 255) : neP.ula u = poS (u : Int) := by
  obtain ⟨h1, h2, h3⟩ := ula_bits ⟨u, by omega⟩
  dsimp only at h1 h2 h3
  show (⟨31, 31, 31, 31, 31, 31, 31, 31, 0, ((Nat.land u 7 : Nat) : Int), micN u, beepN u⟩ : Po) = ⟨31, 31, 31, 31, 31, 31, 31, 31, 0, (u : Int) % 8, bitAt u 8, bitAt u 16⟩
  rw [h1, h2, h3]
end Go.Proofs.YtghcagibdcblnaaGreatDoor
