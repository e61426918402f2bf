/- Pulses of blocks give just these blocks, also where each pulse is one shorter or longer: plain facts. -/
import Derived.Test.YtakdhmlegickmaaDoorVav
import Derived.Test.YtakdhmlegickmaaDoorVwv
import Derived.Test.YtakdhmlegickmaaDoorZxv
import Derived.Test.YtakdhmlegickmaaDoorZav
namespace Go.Proofs.YtakdhmlegickmaaDoor
open Go.ChangeShapes Go.WideShapes Go.ChangeAt Go.RowKit
set_option linter.unusedVariables false
set_option linter.unusedSimpArgs false

/-- each at most one away -/
def Near : List Int → List Int → Prop
  | [], [] => True
  | q :: Q, p :: P => (p - 1 ≤ q ∧ q ≤ p + 1) ∧ Near Q P
  | _, _ => False
theorem Near.refl : ∀ P : List Int, Near P P
  | [] => trivial
  | p :: P => ⟨by omega, Near.refl P⟩
theorem Near.split : ∀ (A Q B : List Int), Near Q (A ++ B) → ∃ Q1 Q2, Q = Q1 ++ Q2 ∧ Near Q1 A ∧ Near Q2 B
  | [], Q, B, h => ⟨[], Q, rfl, trivial, h⟩
  | a :: A, [], B, h => h.elim
  | a :: A, q :: Q, B, h => by
    obtain ⟨h1, h2⟩ := h
    obtain ⟨Q1, Q2, e, n1, n2⟩ := Near.split A Q B h2
    exact ⟨q :: Q1, Q2, by rw [e]; rfl, ⟨h1, n1⟩, n2⟩
theorem Near.len : ∀ (Q P : List Int), Near Q P → Q.length = P.length
  | [], [], _ => rfl
  | q :: Q, p :: P, h => by simp [Near.len Q P h.2]
  | [], p :: P, h => h.elim
  | q :: Q, [], h => h.elim
theorem near_of : ∀ (Q P : List Int), Q.length = P.length → (∀ i, i < P.length → P.getD i 0 - 1 ≤ Q.getD i 0 ∧ Q.getD i 0 ≤ P.getD i 0 + 1) → Near Q P
  | [], [], _, _ => trivial
  | q :: Q, p :: P, hl, h => ⟨h 0 (by simp), near_of Q P (by simpa using hl) (fun i hi => by have := h (i + 1) (by simp; omega); simpa using this)⟩
  | [], p :: P, hl, _ => by simp at hl
  | q :: Q, [], hl, _ => by simp at hl
theorem pil_near : ∀ (n : Nat) (Q rest : List Int) (x : Int), Near Q (List.replicate n 48) → x ≤ 42 → pilC (Q ++ x :: rest) = n
  | 0, [], rest, x, _, hx => by
    show pilC (x :: rest) = 0
    unfold pilC
    rw [if_neg (by omega)]
  | n + 1, q :: Q, rest, x, h, hx => by
    have h' : (48 - 1 ≤ q ∧ q ≤ 48 + 1) ∧ Near Q (List.replicate n 48) := h
    show pilC (q :: (Q ++ x :: rest)) = n + 1
    rw [pilC, if_pos (by omega), pil_near n Q rest x h'.2 hx]
  | 0, q :: Q, _, _, h, _ => h.elim
  | n + 1, [], _, _, h, _ => h.elim
/-- bits into bytes -/
def feed : List Int → Nat → Nat → List Int → (Nat × Nat) × List Int
  | [], n, v, acc => ((n, v), acc)
  | b :: bs, n, v, acc => if n = 7 then feed bs 0 0 (acc ++ [((2 * v + b.toNat : Nat) : Int)]) else feed bs (n + 1) (2 * v + b.toNat) acc
theorem hear_near : ∀ (bs Q R : List Int) (n v : Nat) (acc : List Int), (∀ b, b ∈ bs → b = 0 ∨ b = 1) → Near Q (dbl bs) → hear (Q ++ R) n v acc = hear R (feed bs n v acc).1.1 (feed bs n v acc).1.2 (feed bs n v acc).2
  | [], [], R, n, v, acc, _, _ => rfl
  | [], q :: Q, R, n, v, acc, _, h => h.elim
  | b :: bs, Q, R, n, v, acc, hb, h => by
    have hd : dbl (b :: bs) = pulB b :: pulB b :: dbl bs := rfl
    rw [hd] at h
    match Q, h with
    | q1 :: q2 :: Q, ⟨h1, h2, h3⟩ =>
      have hbb := hb b (List.mem_cons_self ..)
      have hbit' : hbit q1 q2 = b.toNat := by
        unfold hbit pulB at *
        rcases hbb with rfl | rfl
        · rw [if_neg (by omega)]; rfl
        · rw [if_pos (by omega)]; rfl
      have hq : q1 < 200 := by
        unfold pulB at h1
        omega
      show hear (q1 :: q2 :: (Q ++ R)) n v acc = _
      rw [hear_pair, if_pos hq, hbit']
      have ih := fun n v acc => hear_near bs Q R n v acc (fun b hb' => hb b (List.mem_cons_of_mem _ hb')) h3
      by_cases h7 : n = 7
      · have e : feed (b :: bs) n v acc = feed bs 0 0 (acc ++ [((2 * v + b.toNat : Nat) : Int)]) := if_pos h7
        rw [if_pos h7, e]
        exact ih _ _ _
      · have e : feed (b :: bs) n v acc = feed bs (n + 1) (2 * v + b.toNat) acc := if_neg h7
        rw [if_neg h7, e]
        exact ih _ _ _
theorem feed_append : ∀ (a b : List Int) (n v : Nat) (acc : List Int), feed (a ++ b) n v acc = feed b (feed a n v acc).1.1 (feed a n v acc).1.2 (feed a n v acc).2
  | [], b, n, v, acc => rfl
  | x :: a, b, n, v, acc => by
    show (if n = 7 then feed (a ++ b) 0 0 (acc ++ [((2 * v + x.toNat : Nat) : Int)]) else feed (a ++ b) (n + 1) (2 * v + x.toNat) acc) = feed b (if n = 7 then feed a 0 0 (acc ++ [((2 * v + x.toNat : Nat) : Int)]) else feed a (n + 1) (2 * v + x.toNat) acc).1.1 (if n = 7 then feed a 0 0 (acc ++ [((2 * v + x.toNat : Nat) : Int)]) else feed a (n + 1) (2 * v + x.toNat) acc).1.2 (if n = 7 then feed a 0 0 (acc ++ [((2 * v + x.toNat : Nat) : Int)]) else feed a (n + 1) (2 * v + x.toNat) acc).2
    by_cases h7 : n = 7
    · rw [if_pos h7, if_pos h7]
      exact feed_append a b _ _ _
    · rw [if_neg h7, if_neg h7]
      exact feed_append a b _ _ _
theorem feed_acc : ∀ (a : List Int) (n v : Nat) (acc pre : List Int), feed a n v (pre ++ acc) = ((feed a n v acc).1, pre ++ (feed a n v acc).2)
  | [], n, v, acc, pre => rfl
  | x :: a, n, v, acc, pre => by
    show (if n = 7 then feed a 0 0 (pre ++ acc ++ [((2 * v + x.toNat : Nat) : Int)]) else feed a (n + 1) (2 * v + x.toNat) (pre ++ acc)) = ((if n = 7 then feed a 0 0 (acc ++ [((2 * v + x.toNat : Nat) : Int)]) else feed a (n + 1) (2 * v + x.toNat) acc).1, pre ++ (if n = 7 then feed a 0 0 (acc ++ [((2 * v + x.toNat : Nat) : Int)]) else feed a (n + 1) (2 * v + x.toNat) acc).2)
    by_cases h7 : n = 7
    · rw [if_pos h7, if_pos h7, List.append_assoc]
      exact feed_acc a _ _ _ _
    · rw [if_neg h7, if_neg h7]
      exact feed_acc a _ _ _ _
theorem feed8_all : allB 256 (fun n => decide (feed (bits8 n) 0 0 [] = ((0, 0), [(n : Int)]))) = true := by decide +kernel
theorem feed8 (n : Nat) (h : n < 256) (acc : List Int) : feed (bits8 n) 0 0 acc = ((0, 0), acc ++ [(n : Int)]) := by
  have h1 : feed (bits8 n) 0 0 [] = ((0, 0), [(n : Int)]) := of_decide_eq_true (allB_at feed8_all n h)
  have h2 := feed_acc (bits8 n) 0 0 [] acc
  rw [List.append_nil, h1] at h2
  exact h2
theorem bitL_byte (t : ByteArray) (k : Nat) : bitL t (8 * (k + 1)) = bitL t (8 * k) ++ bits8 (byt t k).toNat := by
  have e : 8 * (k + 1) = 8 * k + 8 := by omega
  rw [e]
  unfold bitL bits8
  rw [List.range_add, List.map_append, List.map_map]
  congr 1
  apply List.map_congr_left
  intro j hj
  have hj8 : j < 8 := List.mem_range.1 hj
  show ((bitN t (8 * k + j) : Nat) : Int) = _
  unfold bitN
  rw [show (8 * k + j) / 8 = k by omega, show (8 * k + j) % 8 = j by omega]
theorem feed_text (t : ByteArray) : ∀ k, feed (bitL t (8 * k)) 0 0 [] = ((0, 0), (List.range k).map fun i => byt t i)
  | 0 => rfl
  | k + 1 => by
    have hb := byt_bd t k
    rw [bitL_byte, feed_append, feed_text t k]
    show feed (bits8 (byt t k).toNat) 0 0 ((List.range k).map fun i => byt t i) = _
    rw [feed8 _ (by omega), Int.toNat_of_nonneg hb.1, List.range_succ, List.map_append]
    rfl
theorem strOf_byt (t : ByteArray) : strOfNums ((List.range t.size).map fun i => byt t i) = t := by
  have : ((List.range t.size).map fun i => byt t i) = numS t := by
    apply List.ext_getElem
    · rw [numS_len]; simp
    · intro i h1 h2
      have h3 : i < t.data.toList.length := by simpa [numS] using h2
      simp only [numS, List.getElem_map, List.getElem_range, byt, List.getD_eq_getElem?_getD, List.getElem?_eq_getElem h3, Option.getD_some]
  rw [this, strOfNums_numS]
theorem bit01 (t : ByteArray) (n : Nat) : ∀ b, b ∈ bitL t n → b = 0 ∨ b = 1 := by
  intro b hb
  obtain ⟨j, _, rfl⟩ := List.mem_map.1 hb
  have := bitN_lt t j
  omega
theorem near_all : ∀ (Q P : List Int), Near Q P → (∀ p, p ∈ P → 2 ≤ p ∧ p ≤ 999) → allP Q = true
  | [], [], _, _ => rfl
  | q :: Q, p :: P, h, hp => by
    have h1 := hp p (List.mem_cons_self ..)
    have h2 := near_all Q P h.2 (fun x hx => hp x (List.mem_cons_of_mem _ hx))
    show (inB q 1 1000 && allP Q) = true
    rw [h2, in_yes (by have := h.1; omega) (by have := h.1; omega)]
    rfl
  | [], p :: P, h, _ => h.elim
  | q :: Q, [], h, _ => h.elim
theorem plsB_mem (F : Int) (D : ByteArray) : ∀ p, p ∈ plsB F D → 2 ≤ p ∧ p ≤ 999 := by
  intro p hp
  unfold plsB headL at hp
  rcases List.mem_append.1 hp with hp | hp
  · rcases List.mem_append.1 hp with hp | hp
    · have := List.eq_of_mem_replicate hp
      omega
    · simp at hp
      omega
  · obtain ⟨b, hb, hp⟩ := List.mem_flatMap.1 hp
    have := bit01 _ _ b hb
    simp [pulB] at hp
    omega
theorem getD_appR (A B : List Int) (i : Nat) : (A ++ B).getD (A.length + i) 0 = B.getD i 0 := by
  rw [List.getD_eq_getElem?_getD, List.getElem?_append_right (by omega), List.getD_eq_getElem?_getD]
  congr 2
  omega
theorem hbB_near (F : Int) (D : ByteArray) (hok : okB F D = true) (Q R : List Int) (h : Near Q (plsB F D)) (hR : R = [] ∨ ∃ y R', R = y :: R' ∧ 200 ≤ y) : hbB (Q ++ R) = (((F, D), R), 0) := by
  have e0 : plsB F D = List.replicate (pilN F) 48 ++ ([12, 14] ++ dbl (bitL (bytB F D) (8 * (bytB F D).size))) := by unfold plsB headL; rw [List.append_assoc]
  rw [e0] at h
  obtain ⟨Q1, Q23, rfl, n1, n23⟩ := Near.split _ _ _ h
  obtain ⟨Q2, Q3, rfl, n2, n3⟩ := Near.split _ _ _ n23
  match Q2, n2 with
  | [x, y], ⟨hx, hy, _⟩ =>
    have hl1 : Q1.length = pilN F := by rw [Near.len _ _ n1, List.length_replicate]
    have e1 : Q1 ++ ([x, y] ++ Q3) ++ R = Q1 ++ x :: (y :: (Q3 ++ R)) := by simp
    rw [e1]
    have hp : pilC (Q1 ++ x :: (y :: (Q3 ++ R))) = pilN F := pil_near _ Q1 _ x n1 (by omega)
    have hpn : 8 ≤ pilN F := by unfold pilN; split <;> omega
    have g0 : (Q1 ++ x :: (y :: (Q3 ++ R))).getD (pilN F) 0 = x := by rw [← hl1]; simp
    have g1 : (Q1 ++ x :: (y :: (Q3 ++ R))).getD (pilN F + 1) 0 = y := by rw [← hl1]; simp
    have hd : (Q1 ++ x :: (y :: (Q3 ++ R))).drop (pilN F + 2) = Q3 ++ R := by
      rw [← hl1, ← List.drop_drop, List.drop_left]
      rfl
    have hlen : (Q1 ++ x :: (y :: (Q3 ++ R))).length = pilN F + 2 + (Q3 ++ R).length := by rw [List.length_append, hl1]; simp; omega
    have hh : hear (Q3 ++ R) 0 0 [] = ((List.range (bytB F D).size).map (fun i => byt (bytB F D) i), 0, R) := by
      rw [hear_near _ Q3 R 0 0 [] (bit01 _ _) n3, feed_text]
      refine hear_end R 0 0 _ ?_
      rcases hR with rfl | ⟨y', R', rfl, hy'⟩
      · exact .inl (by simp)
      · exact .inr (by simpa using hy')
    unfold hbB
    rw [hp, g0, g1, hd, hh, if_neg (by omega), if_neg (by omega), if_neg (by simp)]
    show (((ofB (strOfNums ((List.range (bytB F D).size).map (fun i => byt (bytB F D) i)))).1, R), (ofB (strOfNums ((List.range (bytB F D).size).map (fun i => byt (bytB F D) i)))).2) = _
    rw [strOf_byt, ofB_bytB F D hok]
theorem decL_nil (f : Nat) (acc : List (Int × ByteArray)) : decL f [] acc = (acc, 0) := by
  cases f with
  | zero => rfl
  | succ f => rfl
theorem dec_near (F : Int) (D : ByteArray) (hok : okB F D = true) (Q : List Int) (h : Near Q (plsB F D)) : dec2 Q = ([(F, D)], 0) := by
  have hl := Near.len _ _ h
  have hl2 := plsB_len F D
  have hp := pilN_le F
  have hD := ((okB_iff F D).1 hok).2
  unfold dec2
  rw [if_neg (by omega), if_pos (near_all Q _ h (plsB_mem F D))]
  have hb := hbB_near F D hok Q [] h (.inl rfl)
  rw [List.append_nil] at hb
  show (if 0 < Q.length then (if (hbB Q).2 ≠ 0 then ([], (hbB Q).2) else if ([] : List (Int × ByteArray)).length = 6 then ([], 6) else decL Q.length ((hbB Q).1.2.drop 1) ([] ++ [(hbB Q).1.1])) else ([], 0)) = _
  rw [if_pos (by omega), hb, if_neg (by simp), if_neg (by simp)]
  exact decL_nil _ _
def tpS (l : List (Int × ByteArray)) : List Int := l.flatMap fun x => plsB x.1 x.2 ++ [200]
theorem tpN_tpS (l : List (Int × ByteArray)) : ∀ k, k ≤ l.length → tpN l k = tpS (l.take k)
  | 0, _ => rfl
  | k + 1, hk => by
    show tpN l k ++ plsB (l.getD k bkz).1 (l.getD k bkz).2 ++ [200] = _
    rw [tpN_tpS l k (by omega), List.take_succ_eq_append_getElem (by omega)]
    have e : l.getD k bkz = l[k]'(by omega) := by rw [List.getD_eq_getElem?_getD, List.getElem?_eq_getElem (by omega)]; rfl
    rw [e]
    unfold tpS
    rw [List.flatMap_append]
    simp
theorem decL_tape : ∀ (l : List (Int × ByteArray)) (acc : List (Int × ByteArray)) (f : Nat), (∀ x, x ∈ l → okB x.1 x.2 = true) → acc.length + l.length ≤ 6 → (tpS l).length < f → decL f (tpS l) acc = (acc ++ l, 0)
  | [], acc, f, _, _, _ => by rw [List.append_nil]; exact decL_nil f acc
  | x :: l, acc, f, hok, h6, hf => by
    obtain ⟨f, rfl⟩ : ∃ f', f = f' + 1 := ⟨f - 1, by omega⟩
    have e : tpS (x :: l) = plsB x.1 x.2 ++ (200 :: tpS l) := by unfold tpS; simp
    have hb := hbB_near x.1 x.2 (hok x (List.mem_cons_self ..)) (plsB x.1 x.2) (200 :: tpS l) (Near.refl _) (.inr ⟨200, _, rfl, by omega⟩)
    have hl : (tpS (x :: l)).length = (plsB x.1 x.2).length + 1 + (tpS l).length := by rw [e, List.length_append]; simp; omega
    show (if 0 < (tpS (x :: l)).length then (if (hbB (tpS (x :: l))).2 ≠ 0 then ([], (hbB (tpS (x :: l))).2) else if acc.length = 6 then ([], 6) else decL f ((hbB (tpS (x :: l))).1.2.drop 1) (acc ++ [(hbB (tpS (x :: l))).1.1])) else (acc, 0)) = _
    simp only [List.length_cons] at h6
    rw [if_pos (by omega), e, hb, if_neg (by simp), if_neg (by omega)]
    show decL f (tpS l) (acc ++ [x]) = _
    rw [decL_tape l (acc ++ [x]) f (fun y hy => hok y (List.mem_cons_of_mem _ hy)) (by rw [List.length_append]; simp; omega) (by omega), List.append_assoc]
    rfl
theorem tp_all (l : List (Int × ByteArray)) : allP (tpS l) = true := by
  unfold allP
  rw [List.all_eq_true]
  intro p hp
  obtain ⟨x, _, hp⟩ := List.mem_flatMap.1 hp
  rcases List.mem_append.1 hp with hp | hp
  · have := plsB_mem x.1 x.2 p hp
    exact in_yes (by omega) (by omega)
  · simp at hp
    exact in_yes (by omega) (by omega)
theorem dec_tape (l : List (Int × ByteArray)) (hal : allL l = true) (h5 : l.length ≤ 5) : dec2 (tpN l l.length) = (l, 0) ∧ allP (tpN l l.length) = true ∧ (tpN l l.length).length ≤ 3455 := by
  have e : tpN l l.length = tpS l := by rw [tpN_tpS l l.length (Nat.le_refl _), List.take_length]
  have hl := tpN_len hal l.length (Nat.le_refl _)
  rw [e] at hl ⊢
  refine ⟨?_, tp_all l, by omega⟩
  unfold dec2
  rw [if_neg (by omega), if_pos (tp_all l)]
  have hok : ∀ x, x ∈ l → okB x.1 x.2 = true := fun x hx => by
    obtain ⟨k, hk, rfl⟩ := List.getElem_of_mem hx
    have := allL_at hal hk
    rw [List.getD_eq_getElem?_getD, List.getElem?_eq_getElem hk] at this
    exact this
  have := decL_tape l [] ((tpS l).length + 1) hok (by simp; omega) (by omega)
  rw [this]
  rfl
end Go.Proofs.YtakdhmlegickmaaDoor
