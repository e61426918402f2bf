/- Plain facts of tapes: a block's text is taken off again; with another byte in it, it is told. -/
import Derived.Test.YtakdhmlegickmaaDoorZpw
import Derived.Test.YtakdhmlegickmaaDoorUgw
namespace Go.Proofs.YtakdhmlegickmaaDoor
open Go.ChangeShapes Go.WideShapes Go.ChangeAt Go.RowKit
set_option linter.unusedVariables false
set_option linter.unusedSimpArgs false

theorem ba_ext {a b : ByteArray} (h : a.size = b.size) (hb : ∀ k, k < a.size → byt a k = byt b k) : a = b := by
  apply ByteArray.ext
  apply Array.ext
  · exact h
  · intro i h1 h2
    have e1 := byt_eq a i h1
    have e2 := byt_eq b i h2
    have := hb i h1
    rw [← e1, ← e2] at this
    have h3 : (a.data[i]).toNat = (b.data[i]).toNat := by
      have : ((a.data[i]).toNat : Int) = ((b.data[i]).toNat : Int) := this
      omega
    exact UInt8.toNat_inj.1 h3
theorem byt_one (x : Int) (h : 0 ≤ x ∧ x ≤ 255) : byt (strOfNums [x]) 0 = x := by
  have e : (UInt8.ofNat x.toNat).toNat = x.toNat := by
    rw [UInt8.toNat_ofNat']
    omega
  show (((UInt8.ofNat x.toNat).toNat : Nat) : Int) = x
  rw [e]
  omega
theorem takeV_fits (s : ByteArray) (a n : Nat) (h1 : s.size ≤ 65536) (h2 : a + n ≤ s.size) : takeV s a n = ((s, ((a + n : Nat) : Int)), s.extract a (a + n), 0) := by
  have hst : stB s a = true := by simp [stB]; omega
  unfold takeV
  rw [if_neg (by rw [hst]; simp), if_neg (by omega), if_neg (by omega)]
  rw [show ((a : Int) + (n : Int)) = ((a + n : Nat) : Int) by omega, Int.toNat_natCast, Int.toNat_natCast]
/-- a block of m bytes behind its word -/
theorem tkB_at (s : ByteArray) (a m : Nat) (h1 : s.size ≤ 65536) (h2 : a + 2 + m ≤ s.size) (hw : byt s a + 256 * byt s (a + 1) = m) :
    tkB s a = if (ofB (s.extract (a + 2) (a + 2 + m))).2 ≠ 0 then (((s, (a : Int)), (0, ByteArray.empty)), (ofB (s.extract (a + 2) (a + 2 + m))).2) else (((s, ((a + 2 + m : Nat) : Int)), (ofB (s.extract (a + 2) (a + 2 + m))).1), 0) := by
  have hst : stB s a = true := by simp [stB]; omega
  have e1 := takeV_fits s a 2 h1 (by omega)
  rw [show ((2 : Nat) : Int) = 2 from rfl] at e1
  have hwo : wordOf (s.extract a (a + 2)) = m := by
    unfold wordOf
    rw [byt_cut s a (a + 2) 0 (by omega) (by omega), byt_cut s a (a + 2) 1 (by omega) (by omega)]
    exact hw
  have e2 := takeV_fits s (a + 2) m h1 (by omega)
  unfold tkB
  rw [if_neg (by rw [hst]; simp), e1]
  dsimp only
  rw [hwo, e2]
  dsimp only
  rw [if_neg (by simp), if_neg (by simp)]
theorem bytB_at (f : Int) (s : ByteArray) (hf : 0 ≤ f ∧ f ≤ 255) (hm : 0 ≤ sumB f s ∧ sumB f s ≤ 255) : byt (bytB f s) 0 = f ∧ (∀ i, i < s.size → byt (bytB f s) (1 + i) = byt s i) ∧ byt (bytB f s) (s.size + 1) = sumB f s := by
  have z1 : (strOfNums [f]).size = 1 := strOfNums_size _
  unfold bytB
  refine ⟨?_, fun i hi => ?_, ?_⟩
  · rw [byt_cat, ByteArray.size_append, z1, if_pos (by omega), byt_cat, z1, if_pos (by omega), byt_one f hf]
  · rw [byt_cat, ByteArray.size_append, z1, if_pos (by omega), byt_cat, z1, if_neg (by omega)]
    congr 1
    omega
  · rw [byt_cat, ByteArray.size_append, z1, if_neg (by omega), show s.size + 1 - (1 + s.size) = 0 by omega, byt_one _ hm]
theorem sumB_bd (f : Int) (s : ByteArray) (hf : 0 ≤ f ∧ f ≤ 255) : 0 ≤ sumB f s ∧ sumB f s ≤ 255 := by
  obtain ⟨n, rfl⟩ : ∃ n : Nat, f = n := ⟨f.toNat, by omega⟩
  obtain ⟨x, hx, hl⟩ := sumB_nat n s (by omega)
  omega
theorem bytB_cut (f : Int) (s : ByteArray) (hf : 0 ≤ f ∧ f ≤ 255) : (bytB f s).extract 1 (s.size + 1) = s := by
  obtain ⟨_, h1, _⟩ := bytB_at f s hf (sumB_bd f s hf)
  have hz := bytB_size f s
  refine ba_ext (by rw [ByteArray.size_extract]; omega) (fun k hk => ?_)
  rw [ByteArray.size_extract] at hk
  rw [byt_cut _ 1 (s.size + 1) k (by omega) (by omega)]
  exact h1 k (by omega)
theorem ofB_bytB (f : Int) (s : ByteArray) (hok : okB f s = true) : ofB (bytB f s) = ((f, s), 0) := by
  obtain ⟨hf, hs⟩ := (okB_iff f s).1 hok
  have hz := bytB_size f s
  obtain ⟨h0, h1, h2⟩ := bytB_at f s hf (sumB_bd f s hf)
  have hx := xor_sum (bytB f s) (s.size + 1) (by omega) (by omega)
  rw [bytB_cut f s hf, h0, h2] at hx
  unfold ofB
  rw [if_neg (by omega), if_neg (by rw [hx.2 rfl]; simp), h0, show (bytB f s).size - 1 = s.size + 1 by omega, bytB_cut f s hf]
theorem txtB_at (f : Int) (s : ByteArray) (hs : s.size ≤ 40) : byt (txtB f s) 0 = ((s.size + 2 : Nat) : Int) ∧ byt (txtB f s) 1 = 0 ∧ ∀ i, byt (txtB f s) (2 + i) = byt (bytB f s) i := by
  have z2 : (strOfNums [((s.size + 2 : Nat) : Int) % 256, ((s.size + 2 : Nat) : Int) / 256]).size = 2 := strOfNums_size _
  obtain ⟨w0, w1⟩ := byt_two (((s.size + 2 : Nat) : Int) % 256) (((s.size + 2 : Nat) : Int) / 256) (by omega) (by omega)
  unfold txtB
  refine ⟨?_, ?_, fun i => ?_⟩
  · rw [byt_cat, z2, if_pos (by omega), w0]; omega
  · rw [byt_cat, z2, if_pos (by omega), w1]; omega
  · rw [byt_cat, z2, if_neg (by omega)]
    congr 1
    omega
/-- a block's text, wherever it stands -/
theorem tkB_txt (P Q : ByteArray) (f : Int) (s : ByteArray) (hok : okB f s = true) (hz : (P ++ txtB f s ++ Q).size ≤ 65536) : tkB (P ++ txtB f s ++ Q) P.size = (((P ++ txtB f s ++ Q, ((P.size + (txtB f s).size : Nat) : Int)), (f, s)), 0) := by
  obtain ⟨hf, hs⟩ := (okB_iff f s).1 hok
  have zt := txtB_size f s
  obtain ⟨t0, t1, t2⟩ := txtB_at f s hs
  have hS : (P ++ txtB f s ++ Q).size = P.size + (s.size + 4) + Q.size := by rw [ByteArray.size_append, ByteArray.size_append, zt]
  have hb : ∀ i, i < s.size + 4 → byt (P ++ txtB f s ++ Q) (P.size + i) = byt (txtB f s) i := fun i hi => by
    rw [byt_cat, ByteArray.size_append, zt, if_pos (by omega), byt_cat, if_neg (by omega)]
    congr 1
    omega
  have hcut : (P ++ txtB f s ++ Q).extract (P.size + 2) (P.size + 2 + (s.size + 2)) = bytB f s := by
    have hzb := bytB_size f s
    refine ba_ext (by rw [ByteArray.size_extract]; omega) (fun k hk => ?_)
    rw [ByteArray.size_extract] at hk
    rw [byt_cut _ _ _ k (by omega) (by omega), Nat.add_assoc, hb (2 + k) (by omega), t2]
  have h := tkB_at (P ++ txtB f s ++ Q) P.size (s.size + 2) hz (by omega) (by
    have b0 := hb 0 (by omega)
    rw [Nat.add_zero] at b0
    rw [b0, hb 1 (by omega), t0, t1]
    omega)
  rw [hcut, ofB_bytB f s hok, if_neg (by simp)] at h
  rw [h, zt, show P.size + 2 + (s.size + 2) = P.size + (s.size + 4) by omega]
theorem tapN_take (l : List (Int × ByteArray)) : ∀ k, k < l.length → ∃ Q, tapN l l.length = tapN l k ++ txtB (l.getD k bkz).1 (l.getD k bkz).2 ++ Q := by
  have key : ∀ d k, k + 1 + d = l.length → ∃ Q, tapN l l.length = tapN l k ++ txtB (l.getD k bkz).1 (l.getD k bkz).2 ++ Q := by
    intro d
    induction d with
    | zero =>
      intro k hk
      refine ⟨ByteArray.empty, ?_⟩
      rw [ByteArray.append_empty, ← hk]
      rfl
    | succ d ih =>
      intro k hk
      obtain ⟨Q, hQ⟩ := ih (k + 1) (by omega)
      refine ⟨txtB (l.getD (k + 1) bkz).1 (l.getD (k + 1) bkz).2 ++ Q, ?_⟩
      rw [hQ]
      show tapN l k ++ txtB (l.getD k bkz).1 (l.getD k bkz).2 ++ txtB (l.getD (k + 1) bkz).1 (l.getD (k + 1) bkz).2 ++ Q = _
      rw [ByteArray.append_assoc, ByteArray.append_assoc]
  intro k hk
  exact key (l.length - k - 1) k (by omega)
theorem take_succ_getD (l : List (Int × ByteArray)) (k : Nat) (h : k < l.length) : l.take k ++ [l.getD k bkz] = l.take (k + 1) := by
  rw [List.take_add_one, List.getD_eq_getElem?_getD, List.getElem?_eq_getElem h]
  rfl
/-- what TapText writes ReadTap reads -/
theorem rd_tap {l : List (Int × ByteArray)} (h : allL l = true) : rd2 (tapN l l.length) = (l, 0) := by
  have h6 := allL_len h
  have hz := tapN_size h l.length (Nat.le_refl _)
  have key : ∀ d k f, k + d = l.length → d < f → rdL (tapN l l.length) f ((tapN l k).size : Nat) (l.take k) = (l, 0) := by
    intro d
    induction d with
    | zero =>
      intro k f hk hf
      obtain rfl : k = l.length := by omega
      cases f with
      | zero => omega
      | succ f =>
        show (if (((tapN l l.length).size : Nat) : Int) < ((tapN l l.length).size : Int) then _ else (l.take l.length, (0 : Int))) = _
        rw [if_neg (by omega), List.take_length]
    | succ d ih =>
      intro k f hk hf
      cases f with
      | zero => omega
      | succ f =>
        obtain ⟨Q, hQ⟩ := tapN_take l k (by omega)
        have hok := allL_at h (show k < l.length by omega)
        have hsz : (tapN l l.length).size = (tapN l k).size + (txtB (l.getD k bkz).1 (l.getD k bkz).2).size + Q.size := by rw [hQ, ByteArray.size_append, ByteArray.size_append]
        have ht := tkB_txt (tapN l k) Q (l.getD k bkz).1 (l.getD k bkz).2 hok (by rw [← hQ]; omega)
        rw [← hQ] at ht
        have zt := txtB_size (l.getD k bkz).1 (l.getD k bkz).2
        show (if (((tapN l k).size : Nat) : Int) < ((tapN l l.length).size : Int) then (if (tkB (tapN l l.length) ((tapN l k).size : Nat)).2 ≠ 0 then ([], (tkB (tapN l l.length) ((tapN l k).size : Nat)).2) else if (l.take k).length = 6 then ([], 6) else rdL (tapN l l.length) f (tkB (tapN l l.length) ((tapN l k).size : Nat)).1.1.2 (l.take k ++ [(tkB (tapN l l.length) ((tapN l k).size : Nat)).1.2])) else (l.take k, 0)) = (l, 0)
        rw [if_pos (by omega), ht]
        dsimp only
        rw [if_neg (by simp), if_neg (by rw [List.length_take]; omega)]
        have e2 : l.take k ++ [((l.getD k bkz).1, (l.getD k bkz).2)] = l.take (k + 1) := take_succ_getD l k (by omega)
        rw [e2]
        have e3 : (tapN l k).size + (txtB (l.getD k bkz).1 (l.getD k bkz).2).size = (tapN l (k + 1)).size := by
          show _ = (tapN l k ++ txtB (l.getD k bkz).1 (l.getD k bkz).2).size
          rw [ByteArray.size_append]
        rw [e3]
        exact ih (k + 1) f (by omega) (by omega)
  unfold rd2
  rw [if_neg (by omega)]
  have := key l.length 0 ((tapN l l.length).size + 1) (by omega) (by
    have hm : ∀ k, k ≤ l.length → k ≤ (tapN l k).size := by
      intro k
      induction k with
      | zero => intro _; exact Nat.zero_le _
      | succ k ih =>
        intro hk
        have := ih (by omega)
        show k + 1 ≤ (tapN l k ++ txtB (l.getD k bkz).1 (l.getD k bkz).2).size
        rw [ByteArray.size_append, txtB_size]
        omega
    have := hm l.length (Nat.le_refl _)
    omega)
  exact this
/-- one byte turned -/
theorem xor_turn (u v : ByteArray) (j x : Nat) (hx : x < 256) (hj : ∃ y : Nat, byt u j = y ∧ y < 256 ∧ byt v j = ((Nat.xor y x : Nat) : Int)) (ho : ∀ i, i ≠ j → byt v i = byt u i) :
    ∀ k, ∃ m : Nat, xorN u k = m ∧ m < 256 ∧ xorN v k = ((if j < k then Nat.xor m x else m : Nat) : Int) := by
  intro k
  induction k with
  | zero => exact ⟨0, rfl, by omega, by rw [if_neg (by omega)]; rfl⟩
  | succ k ih =>
    obtain ⟨m, h1, h2, h3⟩ := ih
    obtain ⟨y, hy, hy2⟩ := byt_nat u k
    have hu : xorN u (k + 1) = ((Nat.xor m y : Nat) : Int) := by
      show bits .xor .i64 (xorN u k) (byt u k) = _
      rw [h1, hy]
      exact (xor_two m y h2 hy2).1
    refine ⟨Nat.xor m y, hu, (xor_two m y h2 hy2).2, ?_⟩
    show bits .xor .i64 (xorN v k) (byt v k) = _
    rw [h3]
    by_cases e : k = j
    · subst e
      obtain ⟨y', hy', hy2', hv⟩ := hj
      obtain rfl : y = y' := by omega
      rw [hv, if_neg (by omega), if_pos (by omega), (xor_two m (Nat.xor y x) h2 (xor_two y x hy2 hx).2).1, xor_assoc]
    · rw [ho k e, hy]
      by_cases hjk : j < k
      · rw [if_pos hjk, if_pos (by omega), (xor_two (Nat.xor m x) y (xor_two m x h2 hx).2 hy2).1]
        have : Nat.xor (Nat.xor m x) y = Nat.xor (Nat.xor m y) x := by
          rw [xor_assoc, xor_assoc]
          congr 1
          exact Nat.xor_comm x y
        rw [this]
      · rw [if_neg hjk, if_neg (by omega)]
        exact (xor_two m y h2 hy2).1
/-- with another byte in its flag, its data or its sum a block is told -/
theorem rd_bent (f : Int) (s b : ByteArray) (j x : Nat) (hok : okB f s = true) (hx : 1 ≤ x ∧ x < 256) (hj : j < s.size + 2) (hz : b.size = (txtB f s).size) (h1 : ∃ y : Nat, byt (txtB f s) (2 + j) = y ∧ y < 256 ∧ byt b (2 + j) = ((Nat.xor y x : Nat) : Int)) (h2 : ∀ i, i ≠ 2 + j → byt b i = byt (txtB f s) i) :
    (rd2 b).2 = 10 := by
  obtain ⟨hf, hs⟩ := (okB_iff f s).1 hok
  have zt := txtB_size f s
  obtain ⟨t0, t1, t2⟩ := txtB_at f s hs
  have hzb := bytB_size f s
  obtain ⟨u, hu⟩ : ∃ u, b.extract 2 (2 + (s.size + 2)) = u := ⟨_, rfl⟩
  have hus : u.size = s.size + 2 := by rw [← hu, ByteArray.size_extract]; omega
  have hub : ∀ i, i < s.size + 2 → byt u i = byt b (2 + i) := fun i hi => by
    rw [← hu]
    exact byt_cut b 2 _ i (by omega) (by omega)
  have hX : xorN (bytB f s) (bytB f s).size = 0 := by
    have hx2 := xor_sum (bytB f s) (s.size + 1) (by omega) (by omega)
    obtain ⟨h0, _, h3⟩ := bytB_at f s hf (sumB_bd f s hf)
    rw [bytB_cut f s hf, h0, h3] at hx2
    exact hx2.2 rfl
  have big : ∀ (a : ByteArray) i, a.size ≤ i → byt a i = 0 := fun a i hi => by
    unfold byt
    rw [List.getD_eq_getElem?_getD, List.getElem?_eq_none (by rw [Array.length_toList]; exact hi)]
    rfl
  obtain ⟨m, m1, m2, m3⟩ := xor_turn (bytB f s) u j x hx.2 (by
      obtain ⟨y, y1, y2, y3⟩ := h1
      rw [t2] at y1
      exact ⟨y, y1, y2, by rw [hub j hj]; exact y3⟩) (fun i hi => by
      by_cases hi2 : i < s.size + 2
      · rw [hub i hi2, h2 (2 + i) (by omega), t2]
      · rw [big u i (by omega), big (bytB f s) i (by omega)]) (s.size + 2)
  rw [← hzb, hX] at m1
  rw [if_pos hj, ← hus] at m3
  obtain rfl : m = 0 := by omega
  have hne : xorN u u.size ≠ 0 := by
    rw [m3, show Nat.xor 0 x = x from Nat.zero_xor x]
    omega
  have hof : ofB u = ((0, ByteArray.empty), 10) := by
    unfold ofB
    rw [if_neg (by omega), if_pos hne]
  have hb0 : byt b 0 = ((s.size + 2 : Nat) : Int) := by rw [h2 0 (by omega), t0]
  have hb1 : byt b 1 = 0 := by rw [h2 1 (by omega), t1]
  have ht := tkB_at b 0 (s.size + 2) (by omega) (by omega) (by rw [hb0, hb1]; omega)
  rw [show 0 + 2 + (s.size + 2) = 2 + (s.size + 2) by omega, Nat.zero_add, hu, hof, if_pos (by simp)] at ht
  unfold rd2
  rw [if_neg (by omega)]
  show (if (0 : Int) < (b.size : Int) then (if (tkB b 0).2 ≠ 0 then ([], (tkB b 0).2) else if ([] : List (Int × ByteArray)).length = 6 then ([], 6) else rdL b b.size (tkB b 0).1.1.2 ([] ++ [(tkB b 0).1.2])) else ([], 0)).2 = 10
  have ht2 : tkB b 0 = (((b, 0), (0, ByteArray.empty)), 10) := ht
  rw [if_pos (by omega), ht2, if_pos (by simp)]
end Go.Proofs.YtakdhmlegickmaaDoor
