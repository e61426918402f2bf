/- An instruction that is read, as the specification reads it. -/
import Derived.Test.YtneagomkohoceaaDoorIqc
import Derived.Test.YtneagomkohoceaaDoorIlc
import Derived.Test.YtneagomkohoceaaDoorImc
import Derived.Test.YtneagomkohoceaaDoorIhc
namespace Go.Proofs.YtneagomkohoceaaDoor
open Go.ChangeShapes Go.WideShapes Go.ChangeAt Go.RowKit
set_option linter.unusedVariables false
set_option linter.unusedSimpArgs false

/-- the number of a word among the first j words -/
def opJ (t : ByteArray) : Nat → Int
  | 0 => -1
  | j + 1 => if kdW j = t then (j : Int) else opJ t j
theorem opJ_none {t : ByteArray} : ∀ j, (∀ i, i < j → kdW i ≠ t) → opJ t j = -1
  | 0, _ => rfl
  | j + 1, h => by
    unfold opJ
    rw [if_neg (h j (by omega))]
    exact opJ_none j (fun i hi => h i (by omega))
theorem opJ_some {t : ByteArray} {k : Nat} (hk : k < 24) (e : kdW k = t) : ∀ j, k < j → j ≤ 24 → opJ t j = (k : Int)
  | 0, h, _ => by omega
  | j + 1, h, hj => by
    unfold opJ
    by_cases hjk : j = k
    · subst hjk
      rw [if_pos e]
    · rw [if_neg (fun e' => hjk (kdW_inj j (by omega) k hk (e'.trans e.symm)))]
      exact opJ_some hk e j (by omega) (by omega)
theorem form_offs : ∀ k, k < 23 → (formT k).size = offL k ∧ ∀ j, j < offL k → byt (formT k) j = (if (offsK (kdN k)).getD j 0 = 1 then 65 else if (offsK (kdN k)).getD j 0 = 2 then 66 else 78) := by decide +kernel
theorem len_bit (k : Nat) (hk : k < 23) : 1 + bitI (hasC k 66 || hasC k 78) = lenM (kdN k) := by
  have h : ∀ k, k < 23 → 1 + bitI (hasC k 66 || hasC k 78) = lenM (kdN k) := by decide +kernel
  exact h k hk
theorem RdP.none {ws : List ByteArray} (h : ∀ k, ¬ ReadIs ws k) (o a b n l : Int) : RdP ws (.returned (.tuple #[insV o a b n l, .bool false])) := .inr ⟨h, o, a, b, n, l, rfl⟩
theorem db_ins (ws : List ByteArray) : insY 23 ws = insV 23 0 0 (numW ws 1) 1 := by
  have h : offL 23 = 1 ∧ (offsK (kdN 23)).getD 0 0 = 3 ∧ lenM (kdN 23) = 1 := by decide +kernel
  unfold insY
  rw [h.1, h.2.2]
  show insV _ (setI (0, 0, 0) ((offsK (kdN 23)).getD 0 0) (numW ws 1)).1 (setI (0, 0, 0) ((offsK (kdN 23)).getD 0 0) (numW ws 1)).2.1 (setI (0, 0, 0) ((offsK (kdN 23)).getD 0 0) (numW ws 1)).2.2 1 = _
  rw [h.2.1]
  rfl
theorem db_ok {ws : List ByteArray} (h2 : ws.length = 2) (h0 : wsAt ws 0 = kdW 23) (hn : isNum (wsAt ws 1)) (hok : okI 23 0 0 (numW ws 1) 1 = true) : ReadIs ws 23 := by
  have h : offL 23 = 1 ∧ (offsK (kdN 23)).getD 0 0 = 3 ∧ lenM (kdN 23) = 1 := by decide +kernel
  refine ⟨by omega, by omega, h0, by rw [h.1, h2], fun i hi1 hi2 => ?_, ?_⟩
  · obtain rfl : i = 1 := by omega
    exact hn
  · rw [h.1, h.2.2]
    show okI _ (setI (0, 0, 0) ((offsK (kdN 23)).getD 0 0) (numW ws 1)).1 (setI (0, 0, 0) ((offsK (kdN 23)).getD 0 0) (numW ws 1)).2.1 (setI (0, 0, 0) ((offsK (kdN 23)).getD 0 0) (numW ws 1)).2.2 1 = true
    rw [h.2.1]
    exact hok
theorem db_no {ws : List ByteArray} (h2 : ws.length = 2) (h0 : wsAt ws 0 = kdW 23) (h : ¬ (isNum (wsAt ws 1) ∧ okI 23 0 0 (numW ws 1) 1 = true)) : ∀ k, ¬ ReadIs ws k := by
  intro k hk
  obtain rfl := hk.op (by omega) h0
  refine h ⟨hk.2.2.2.2.1 1 (by omega) (by omega), ?_⟩
  have h1 := hk.2.2.2.2.2
  have hh : offL 23 = 1 ∧ (offsK (kdN 23)).getD 0 0 = 3 ∧ lenM (kdN 23) = 1 := by decide +kernel
  rw [hh.1, hh.2.2] at h1
  have h1 : okI _ (setI (0, 0, 0) ((offsK (kdN 23)).getD 0 0) (numW ws 1)).1 (setI (0, 0, 0) ((offsK (kdN 23)).getD 0 0) (numW ws 1)).2.1 (setI (0, 0, 0) ((offsK (kdN 23)).getD 0 0) (numW ws 1)).2.2 1 = true := h1
  rw [hh.2.1] at h1
  exact h1
set_option maxRecDepth 100000 in
set_option maxHeartbeats 1000000 in
theorem read_db (s : ByteArray) (w : World) (ws : List ByteArray) (hws : wordsB s = ws) (hs : s.size ≤ 65536) (h2 : ws.length = 2) (h0 : wsAt ws 0 = kdW 23) :
    Calls Tryd.prog 50 #[.string s] w fun e w' => RdP ws e ∧ Below w.heap.size w w' := by
  have hsz : (wsAt ws 1).size ≤ 1000000 := by rw [← hws]; have := words_size s 1; omega
  have hok1 := hid (fun hn hk => db_ok h2 h0 hn hk)
  have hno1 := hid (fun h => db_no h2 h0 h)
  have hyes : Hid (isNum (wsAt ws 1) → okI 23 0 0 (numW ws 1) 1 = true → RdP ws (.returned (.tuple #[insV 23 0 0 (numW ws 1) 1, .bool true]))) := fun hn hk => .inl ⟨23, db_ok h2 h0 hn hk, by rw [db_ins]⟩
  have hnon : Hid (¬ (isNum (wsAt ws 1) ∧ okI 23 0 0 (numW ws 1) 1 = true) → ∀ o a b n l, RdP ws (.returned (.tuple #[insV o a b n l, .bool false]))) := fun h => RdP.none (db_no h2 h0 h)
  replace hws := hid hws
  go_enter Tryd.func50, Tryd.ntmps50
  go_wp2_with fail
  refine (words_spec0 s _ hs).mono ?_
  rintro e w1 ⟨v, rfl, hown, hb⟩
  rw [hws.out] at hown
  obtain ⟨va, vc, g, rfl, hvc, hva, hR⟩ := RSt.start hb hown
  have hva' := hva (by omega)
  subst hva'
  rw [h2]
  have c0 := hR.vc 0 (by omega)
  have c1 := hR.vc 1 (by omega)
  rw [h0] at c0
  have hk23 : kdW 23 = ⟨#[100, 98]⟩ := by decide +kernel
  rw [hk23] at c0
  have hnum : numW ws 1 = valS (wsAt ws 1) (wsAt ws 1).size := rfl
  generalize wsAt ws 1 = t1 at *
  replace hR := hid hR
  clear hb hown hva hvc h0 hk23 hok1 hno1
  go_wp2_with fail
  refine (num_spec t1 _ hsz).mono ?_
  rintro e w2 ⟨⟨m, rfl, hm⟩, hb⟩
  have hR2 := hid (hR.out.below hb)
  clear hb hR c0 c1
  by_cases hn : isNum t1
  · skip
    rw [decide_eq_true hn]
    have em := hm hn
    rw [← hnum] at em
    rw [← em] at hyes hnon
    clear em hnum
    clear hm
    have Q := Blk.new w2 #[.int .i64 23, .int .i64 0, .int .i64 0, .int .i64 m, .int .i64 1] 24
    have hR3 := hid (hR2.out.alloc (.cells #[.int .i64 23, .int .i64 0, .int .i64 0, .int .i64 m, .int .i64 1] 24))
    have hlt2 := hR2.out.q.lt
    clear hR2
    go_upto_region 5 with fail
    obtain ⟨W3, hW3⟩ : ∃ W, w2.alloc (.cells #[.int .i64 23, .int .i64 0, .int .i64 0, .int .i64 m, .int .i64 1] 24) = W := ⟨_, rfl⟩
    rw [hW3] at Q hR3 ⊢
    clear hW3
    have hS3 : Hid (Below w.heap.size w W3.drew) := hid hR3.out.bel.drew
    have d0 : W3.cell? ⟨w2.heap.size, 0, none⟩ = some (.int .i64 23) := Q.cell 0
    have d1 : W3.cell? ⟨w2.heap.size, 1, none⟩ = some (.int .i64 0) := Q.cell 1
    have d2 : W3.cell? ⟨w2.heap.size, 2, none⟩ = some (.int .i64 0) := Q.cell 2
    have d3 : W3.cell? ⟨w2.heap.size, 3, none⟩ = some (.int .i64 m) := Q.cell 3
    have d4 : W3.cell? ⟨w2.heap.size, 4, none⟩ = some (.int .i64 1) := Q.cell 4
    replace Q := hid Q
    refine wp_region_held_drew (S := (fun w' => w'.cell? ⟨w2.heap.size, 0, none⟩ = some (.int .i64 23) ∧ w'.cell? ⟨w2.heap.size, 1, none⟩ = some (.int .i64 0) ∧ w'.cell? ⟨w2.heap.size, 2, none⟩ = some (.int .i64 0) ∧ w'.cell? ⟨w2.heap.size, 3, none⟩ = some (.int .i64 m) ∧ w'.cell? ⟨w2.heap.size, 4, none⟩ = some (.int .i64 1) ∧ Hid (Below w.heap.size w w'))) (by kernel_rfl) ⟨d0, d1, d2, d3, d4, hS3⟩ (fun hHeld => ?_)
    refine wpAnyH_take (i := 0) (oi := ({ dst := some 34, op := Op.load 24 (Operand.tmp 7), type := 24, pos := "l05_code.go:129", after := #[], guard := none } : Oper)) (v := ?_) rfl (by kernel_rfl) (by kernel_rfl) (by kernel_rfl) (fun _ _ _ h => h) (Or.inl ⟨by rfl, ?_⟩) (by assumption) ?_
    rotate_left
    · intro w hSw
      (try dsimp only at hSw)
      go_simp
      (try with_reducible rfl)
    (try simp only [Act.put, List.setIfInBounds_toArray, List.set_cons_zero, List.set_cons_succ])
    refine wpAnyH_take (i := 1) (oi := ({ dst := some 35, op := Op.move (Operand.tmp 6), type := 4, pos := "l05_code.go:129", after := #[], guard := none } : Oper)) (v := ?_) rfl (by kernel_rfl) (by kernel_rfl) (by kernel_rfl) (fun _ _ _ h => h) (Or.inl ⟨by rfl, ?_⟩) (by assumption) ?_
    rotate_left
    · intro w hSw
      (try dsimp only at hSw)
      go_simp
      (try with_reducible rfl)
    (try simp only [Act.put, List.setIfInBounds_toArray, List.set_cons_zero, List.set_cons_succ])
    refine wpAnyH_take (i := 2) (oi := ({ dst := some 36, op := Op.move (Operand.tmp 35), type := 4, pos := "l05_code.go:129", after := #[{ on := 1, ground := Ground.data }], guard := none } : Oper)) (v := ?_) rfl (by kernel_rfl) (by kernel_rfl) (by kernel_rfl) (fun _ _ _ h => h) (Or.inl ⟨by rfl, ?_⟩) (by assumption) ?_
    rotate_left
    · intro w hSw
      (try dsimp only at hSw)
      go_simp
      (try with_reducible rfl)
    (try simp only [Act.put, List.setIfInBounds_toArray, List.set_cons_zero, List.set_cons_succ])
    refine wpAnyH_take (i := 3) (oi := ({ dst := some 37, op := Op.load 24 (Operand.tmp 7), type := 24, pos := "l05_code.go:129", after := #[{ on := 2, ground := Ground.guard }], guard := some (2, true) } : Oper)) (v := ?_) rfl (by kernel_rfl) (by kernel_rfl) (by kernel_rfl) (fun _ _ _ h => h) (Or.inl ⟨by rfl, ?_⟩) (by assumption) ?_
    rotate_left
    · intro w hSw
      (try dsimp only at hSw)
      go_simp
      (try with_reducible rfl)
    (try simp only [Act.put, List.setIfInBounds_toArray, List.set_cons_zero, List.set_cons_succ])
    refine wpAnyH_ready (rs := [4]) (by kernel_rfl) (by simp) ?_
    refine AllReadyH.cons (o := ({ dst := some 38, op := Op.call { callee := Callee.value (Operand.func 28), args := #[Operand.tmp 37], argTypes := #[24] }, type := 4, pos := "l05_code.go:129", after := #[{ on := 3, ground := Ground.data }, { on := 2, ground := Ground.chain }, { on := 2, ground := Ground.guard }], guard := some (2, true) } : Oper)) rfl (fun K hK => ?_) AllReadyH.nil
    go_simp
    go_at_call 28
    refine (insok_spec _ _ _ _ _ _).mono ?_
    rintro e w4 ⟨rfl, hb⟩
    have Q4 := hid ((blk_drew Q.out).below hb Q.out.lt)
    have hR4 := hid (hR3.out.drew.below hb)
    have hS4 := hid hR4.out.bel
    have f0 : w4.cell? ⟨w2.heap.size, 0, none⟩ = some (.int .i64 23) := Q4.out.cell 0
    have f1 : w4.cell? ⟨w2.heap.size, 1, none⟩ = some (.int .i64 0) := Q4.out.cell 1
    have f2 : w4.cell? ⟨w2.heap.size, 2, none⟩ = some (.int .i64 0) := Q4.out.cell 2
    have f3 : w4.cell? ⟨w2.heap.size, 3, none⟩ = some (.int .i64 m) := Q4.out.cell 3
    have f4 : w4.cell? ⟨w2.heap.size, 4, none⟩ = some (.int .i64 1) := Q4.out.cell 4
    clear hb
    go_wp2_with fail
    refine hK.out _ _ ⟨f0, f1, f2, f3, f4, hS4⟩ (fun hHeld => ?_)
    clear hK K
    (try simp only [Act.put, List.setIfInBounds_toArray, List.set_cons_zero, List.set_cons_succ])
    clear f0 f1 f2 f3 f4
    refine wpAnyH_take (i := 5) (oi := ({ dst := some 39, op := Op.pick (Operand.tmp 36) (Operand.tmp 38) (Operand.const (Value.bool false)), type := 4, pos := "l05_code.go:129", after := #[{ on := 2, ground := Ground.data }, { on := 4, ground := Ground.data }, { on := 6, ground := Ground.gcOnly Departure.lateStores }], guard := none } : Oper)) (v := ?_) rfl (by kernel_rfl) (by kernel_rfl) (by kernel_rfl) (fun _ _ _ h => h) (Or.inl ⟨by rfl, ?_⟩) (by assumption) ?_
    rotate_left
    · intro w hSw
      (try dsimp only at hSw)
      go_simp
      (try with_reducible rfl)
    (try simp only [Act.put, List.setIfInBounds_toArray, List.set_cons_zero, List.set_cons_succ])
    refine wpAnyH_ready (rs := [6]) (by kernel_rfl) (by simp) ?_
    refine AllReadyH.cons (o := ({ dst := none, op := Op.store 24 (Operand.tmp 2) (Operand.tmp 34), type := 0, pos := "l05_code.go:129", after := #[{ on := 0, ground := Ground.data }, { on := 4, ground := Ground.chain }, { on := 0, ground := Ground.phase }, { on := 1, ground := Ground.textOnly Departure.lateStores }, { on := 2, ground := Ground.textOnly Departure.lateStores }, { on := 3, ground := Ground.textOnly Departure.lateStores }, { on := 4, ground := Ground.textOnly Departure.lateStoresUnsure }, { on := 5, ground := Ground.textOnly Departure.lateStores }], guard := none } : Oper)) rfl (fun K hK => ?_) AllReadyH.nil
    have x0 := hR4.out.q.cell
    have f0 := hR4.out.q.frozen
    have z0 := hR4.out.q.lt
    have Q5 := (((((Q4.out.other (p := ⟨w.heap.size, 0, none⟩) (by dsimp only; omega) (.int .i64 23)).other (p := ⟨w.heap.size, 1, none⟩) (by dsimp only; omega) (.int .i64 0)).other (p := ⟨w.heap.size, 2, none⟩) (by dsimp only; omega) (.int .i64 0)).other (p := ⟨w.heap.size, 3, none⟩) (by dsimp only; omega) (.int .i64 m)).other (p := ⟨w.heap.size, 4, none⟩) (by dsimp only; omega) (.int .i64 1))
    have B5 : Hid (Below w.heap.size w (((((w4.setCell ⟨w.heap.size, 0, none⟩ (.int .i64 23)).setCell ⟨w.heap.size, 1, none⟩ (.int .i64 0)).setCell ⟨w.heap.size, 2, none⟩ (.int .i64 0)).setCell ⟨w.heap.size, 3, none⟩ (.int .i64 m)).setCell ⟨w.heap.size, 4, none⟩ (.int .i64 1))) := hid ((((((hR4.out.bel.setCell (p := ⟨w.heap.size, 0, none⟩) (by dsimp only; omega) (.int .i64 23)).setCell (p := ⟨w.heap.size, 1, none⟩) (by dsimp only; omega) (.int .i64 0)).setCell (p := ⟨w.heap.size, 2, none⟩) (by dsimp only; omega) (.int .i64 0)).setCell (p := ⟨w.heap.size, 3, none⟩) (by dsimp only; omega) (.int .i64 m)).setCell (p := ⟨w.heap.size, 4, none⟩) (by dsimp only; omega) (.int .i64 1)))
    have e0 : ((((((w4.setCell ⟨w.heap.size, 0, none⟩ (.int .i64 23)).setCell ⟨w.heap.size, 1, none⟩ (.int .i64 0)).setCell ⟨w.heap.size, 2, none⟩ (.int .i64 0)).setCell ⟨w.heap.size, 3, none⟩ (.int .i64 m)).setCell ⟨w.heap.size, 4, none⟩ (.int .i64 1))).cell? ⟨w2.heap.size, 0, none⟩ = some (.int .i64 23) := Q5.cell 0
    have e1 : ((((((w4.setCell ⟨w.heap.size, 0, none⟩ (.int .i64 23)).setCell ⟨w.heap.size, 1, none⟩ (.int .i64 0)).setCell ⟨w.heap.size, 2, none⟩ (.int .i64 0)).setCell ⟨w.heap.size, 3, none⟩ (.int .i64 m)).setCell ⟨w.heap.size, 4, none⟩ (.int .i64 1))).cell? ⟨w2.heap.size, 1, none⟩ = some (.int .i64 0) := Q5.cell 1
    have e2 : ((((((w4.setCell ⟨w.heap.size, 0, none⟩ (.int .i64 23)).setCell ⟨w.heap.size, 1, none⟩ (.int .i64 0)).setCell ⟨w.heap.size, 2, none⟩ (.int .i64 0)).setCell ⟨w.heap.size, 3, none⟩ (.int .i64 m)).setCell ⟨w.heap.size, 4, none⟩ (.int .i64 1))).cell? ⟨w2.heap.size, 2, none⟩ = some (.int .i64 0) := Q5.cell 2
    have e3 : ((((((w4.setCell ⟨w.heap.size, 0, none⟩ (.int .i64 23)).setCell ⟨w.heap.size, 1, none⟩ (.int .i64 0)).setCell ⟨w.heap.size, 2, none⟩ (.int .i64 0)).setCell ⟨w.heap.size, 3, none⟩ (.int .i64 m)).setCell ⟨w.heap.size, 4, none⟩ (.int .i64 1))).cell? ⟨w2.heap.size, 3, none⟩ = some (.int .i64 m) := Q5.cell 3
    have e4 : ((((((w4.setCell ⟨w.heap.size, 0, none⟩ (.int .i64 23)).setCell ⟨w.heap.size, 1, none⟩ (.int .i64 0)).setCell ⟨w.heap.size, 2, none⟩ (.int .i64 0)).setCell ⟨w.heap.size, 3, none⟩ (.int .i64 m)).setCell ⟨w.heap.size, 4, none⟩ (.int .i64 1))).cell? ⟨w2.heap.size, 4, none⟩ = some (.int .i64 1) := Q5.cell 4
    clear Q5
    go_simp
    refine hK.out _ _ ⟨e0, e1, e2, e3, e4, B5⟩ (fun hHeld => ?_)
    clear hK K
    (try simp only [Act.put, List.setIfInBounds_toArray, List.set_cons_zero, List.set_cons_succ])
    refine wpAnyH_take (i := 7) (oi := ({ dst := some 3, op := Op.assign (Operand.tmp 39), type := 4, pos := "l05_code.go:129", after := #[{ on := 5, ground := Ground.data }, { on := 6, ground := Ground.chain }, { on := 0, ground := Ground.phase }, { on := 1, ground := Ground.phase }, { on := 2, ground := Ground.phase }, { on := 3, ground := Ground.phase }, { on := 4, ground := Ground.phase }, { on := 5, ground := Ground.phase }, { on := 6, ground := Ground.phase }], guard := none } : Oper)) (v := ?_) rfl (by kernel_rfl) (by kernel_rfl) (by kernel_rfl) (fun _ _ _ h => h) (Or.inl ⟨by rfl, ?_⟩) (by assumption) ?_
    rotate_left
    · intro w hSw
      (try dsimp only at hSw)
      go_simp
      (try with_reducible rfl)
    (try simp only [Act.put, List.setIfInBounds_toArray, List.set_cons_zero, List.set_cons_succ])
    refine wpAnyH_done (by kernel_rfl) ?_ _
    go_wp2
    cases hk : okI 23 0 0 m 1
    · have hC := hnon.out (fun h => by rw [hk] at h; exact absurd h.2 (by decide)) 23 0 0 m 1
      refine bodyPost_ret (v := .tuple #[insV 23 0 0 m 1, .bool false]) (by simp [results, Tryd.results50, go_sem, x0]) rfl ⟨hC, B5.out⟩
    · have hC := hyes.out hn hk
      refine bodyPost_ret (v := .tuple #[insV 23 0 0 m 1, .bool true]) (by simp [results, Tryd.results50, go_sem, x0]) rfl ⟨hC, B5.out⟩
  · skip
    rw [decide_eq_false hn]
    have hN := hid (hnon.out (fun h => hn h.1))
    clear hm hnon
    have Q := Blk.new w2 #[.int .i64 23, .int .i64 0, .int .i64 0, .int .i64 m, .int .i64 1] 24
    have hR3 := hid (hR2.out.alloc (.cells #[.int .i64 23, .int .i64 0, .int .i64 0, .int .i64 m, .int .i64 1] 24))
    have hlt2 := hR2.out.q.lt
    clear hR2
    go_upto_region 5 with fail
    obtain ⟨W3, hW3⟩ : ∃ W, w2.alloc (.cells #[.int .i64 23, .int .i64 0, .int .i64 0, .int .i64 m, .int .i64 1] 24) = W := ⟨_, rfl⟩
    rw [hW3] at Q hR3 ⊢
    clear hW3
    have hS3 : Hid (Below w.heap.size w W3.drew) := hid hR3.out.bel.drew
    have d0 : W3.cell? ⟨w2.heap.size, 0, none⟩ = some (.int .i64 23) := Q.cell 0
    have d1 : W3.cell? ⟨w2.heap.size, 1, none⟩ = some (.int .i64 0) := Q.cell 1
    have d2 : W3.cell? ⟨w2.heap.size, 2, none⟩ = some (.int .i64 0) := Q.cell 2
    have d3 : W3.cell? ⟨w2.heap.size, 3, none⟩ = some (.int .i64 m) := Q.cell 3
    have d4 : W3.cell? ⟨w2.heap.size, 4, none⟩ = some (.int .i64 1) := Q.cell 4
    replace Q := hid Q
    refine wp_region_held_drew (S := (fun w' => w'.cell? ⟨w2.heap.size, 0, none⟩ = some (.int .i64 23) ∧ w'.cell? ⟨w2.heap.size, 1, none⟩ = some (.int .i64 0) ∧ w'.cell? ⟨w2.heap.size, 2, none⟩ = some (.int .i64 0) ∧ w'.cell? ⟨w2.heap.size, 3, none⟩ = some (.int .i64 m) ∧ w'.cell? ⟨w2.heap.size, 4, none⟩ = some (.int .i64 1) ∧ Hid (Below w.heap.size w w'))) (by kernel_rfl) ⟨d0, d1, d2, d3, d4, hS3⟩ (fun hHeld => ?_)
    refine wpAnyH_take (i := 0) (oi := ({ dst := some 34, op := Op.load 24 (Operand.tmp 7), type := 24, pos := "l05_code.go:129", after := #[], guard := none } : Oper)) (v := ?_) rfl (by kernel_rfl) (by kernel_rfl) (by kernel_rfl) (fun _ _ _ h => h) (Or.inl ⟨by rfl, ?_⟩) (by assumption) ?_
    rotate_left
    · intro w hSw
      (try dsimp only at hSw)
      go_simp
      (try with_reducible rfl)
    (try simp only [Act.put, List.setIfInBounds_toArray, List.set_cons_zero, List.set_cons_succ])
    refine wpAnyH_take (i := 1) (oi := ({ dst := some 35, op := Op.move (Operand.tmp 6), type := 4, pos := "l05_code.go:129", after := #[], guard := none } : Oper)) (v := ?_) rfl (by kernel_rfl) (by kernel_rfl) (by kernel_rfl) (fun _ _ _ h => h) (Or.inl ⟨by rfl, ?_⟩) (by assumption) ?_
    rotate_left
    · intro w hSw
      (try dsimp only at hSw)
      go_simp
      (try with_reducible rfl)
    (try simp only [Act.put, List.setIfInBounds_toArray, List.set_cons_zero, List.set_cons_succ])
    refine wpAnyH_take (i := 2) (oi := ({ dst := some 36, op := Op.move (Operand.tmp 35), type := 4, pos := "l05_code.go:129", after := #[{ on := 1, ground := Ground.data }], guard := none } : Oper)) (v := ?_) rfl (by kernel_rfl) (by kernel_rfl) (by kernel_rfl) (fun _ _ _ h => h) (Or.inl ⟨by rfl, ?_⟩) (by assumption) ?_
    rotate_left
    · intro w hSw
      (try dsimp only at hSw)
      go_simp
      (try with_reducible rfl)
    (try simp only [Act.put, List.setIfInBounds_toArray, List.set_cons_zero, List.set_cons_succ])
    refine wpAnyH_take (i := 3) (oi := ({ dst := some 37, op := Op.load 24 (Operand.tmp 7), type := 24, pos := "l05_code.go:129", after := #[{ on := 2, ground := Ground.guard }], guard := some (2, true) } : Oper)) (v := undef) rfl (by kernel_rfl) (by kernel_rfl) (by kernel_rfl) (fun _ _ _ h => h) (Or.inr ⟨by rfl, rfl⟩) (by assumption) ?_
    (try simp only [Act.put, List.setIfInBounds_toArray, List.set_cons_zero, List.set_cons_succ])
    refine wpAnyH_take (i := 4) (oi := ({ dst := some 38, op := Op.call { callee := Callee.value (Operand.func 28), args := #[Operand.tmp 37], argTypes := #[24] }, type := 4, pos := "l05_code.go:129", after := #[{ on := 3, ground := Ground.data }, { on := 2, ground := Ground.chain }, { on := 2, ground := Ground.guard }], guard := some (2, true) } : Oper)) (v := undef) rfl (by kernel_rfl) (by kernel_rfl) (by kernel_rfl) (fun _ _ _ h => h) (Or.inr ⟨by rfl, rfl⟩) (by assumption) ?_
    (try simp only [Act.put, List.setIfInBounds_toArray, List.set_cons_zero, List.set_cons_succ])
    refine wpAnyH_take (i := 5) (oi := ({ dst := some 39, op := Op.pick (Operand.tmp 36) (Operand.tmp 38) (Operand.const (Value.bool false)), type := 4, pos := "l05_code.go:129", after := #[{ on := 2, ground := Ground.data }, { on := 4, ground := Ground.data }, { on := 6, ground := Ground.gcOnly Departure.lateStores }], guard := none } : Oper)) (v := ?_) rfl (by kernel_rfl) (by kernel_rfl) (by kernel_rfl) (fun _ _ _ h => h) (Or.inl ⟨by rfl, ?_⟩) (by assumption) ?_
    rotate_left
    · intro w hSw
      (try dsimp only at hSw)
      go_simp
      (try with_reducible rfl)
    (try simp only [Act.put, List.setIfInBounds_toArray, List.set_cons_zero, List.set_cons_succ])
    refine wpAnyH_ready (rs := [6]) (by kernel_rfl) (by simp) ?_
    refine AllReadyH.cons (o := ({ dst := none, op := Op.store 24 (Operand.tmp 2) (Operand.tmp 34), type := 0, pos := "l05_code.go:129", after := #[{ on := 0, ground := Ground.data }, { on := 4, ground := Ground.chain }, { on := 0, ground := Ground.phase }, { on := 1, ground := Ground.textOnly Departure.lateStores }, { on := 2, ground := Ground.textOnly Departure.lateStores }, { on := 3, ground := Ground.textOnly Departure.lateStores }, { on := 4, ground := Ground.textOnly Departure.lateStoresUnsure }, { on := 5, ground := Ground.textOnly Departure.lateStores }], guard := none } : Oper)) rfl (fun K hK => ?_) AllReadyH.nil
    have x0 := hR3.out.q.cell
    have f0 := hR3.out.q.frozen
    have z0 := hR3.out.q.lt
    have Q5 := blk_drew (((((Q.out.other (p := ⟨w.heap.size, 0, none⟩) (by dsimp only; omega) (.int .i64 23)).other (p := ⟨w.heap.size, 1, none⟩) (by dsimp only; omega) (.int .i64 0)).other (p := ⟨w.heap.size, 2, none⟩) (by dsimp only; omega) (.int .i64 0)).other (p := ⟨w.heap.size, 3, none⟩) (by dsimp only; omega) (.int .i64 m)).other (p := ⟨w.heap.size, 4, none⟩) (by dsimp only; omega) (.int .i64 1))
    have B5 : Hid (Below w.heap.size w (((((W3.setCell ⟨w.heap.size, 0, none⟩ (.int .i64 23)).setCell ⟨w.heap.size, 1, none⟩ (.int .i64 0)).setCell ⟨w.heap.size, 2, none⟩ (.int .i64 0)).setCell ⟨w.heap.size, 3, none⟩ (.int .i64 m)).setCell ⟨w.heap.size, 4, none⟩ (.int .i64 1)).drew) := hid ((((((hR3.out.bel.setCell (p := ⟨w.heap.size, 0, none⟩) (by dsimp only; omega) (.int .i64 23)).setCell (p := ⟨w.heap.size, 1, none⟩) (by dsimp only; omega) (.int .i64 0)).setCell (p := ⟨w.heap.size, 2, none⟩) (by dsimp only; omega) (.int .i64 0)).setCell (p := ⟨w.heap.size, 3, none⟩) (by dsimp only; omega) (.int .i64 m)).setCell (p := ⟨w.heap.size, 4, none⟩) (by dsimp only; omega) (.int .i64 1)).drew)
    have e0 : ((((((W3.setCell ⟨w.heap.size, 0, none⟩ (.int .i64 23)).setCell ⟨w.heap.size, 1, none⟩ (.int .i64 0)).setCell ⟨w.heap.size, 2, none⟩ (.int .i64 0)).setCell ⟨w.heap.size, 3, none⟩ (.int .i64 m)).setCell ⟨w.heap.size, 4, none⟩ (.int .i64 1)).drew).cell? ⟨w2.heap.size, 0, none⟩ = some (.int .i64 23) := Q5.cell 0
    have e1 : ((((((W3.setCell ⟨w.heap.size, 0, none⟩ (.int .i64 23)).setCell ⟨w.heap.size, 1, none⟩ (.int .i64 0)).setCell ⟨w.heap.size, 2, none⟩ (.int .i64 0)).setCell ⟨w.heap.size, 3, none⟩ (.int .i64 m)).setCell ⟨w.heap.size, 4, none⟩ (.int .i64 1)).drew).cell? ⟨w2.heap.size, 1, none⟩ = some (.int .i64 0) := Q5.cell 1
    have e2 : ((((((W3.setCell ⟨w.heap.size, 0, none⟩ (.int .i64 23)).setCell ⟨w.heap.size, 1, none⟩ (.int .i64 0)).setCell ⟨w.heap.size, 2, none⟩ (.int .i64 0)).setCell ⟨w.heap.size, 3, none⟩ (.int .i64 m)).setCell ⟨w.heap.size, 4, none⟩ (.int .i64 1)).drew).cell? ⟨w2.heap.size, 2, none⟩ = some (.int .i64 0) := Q5.cell 2
    have e3 : ((((((W3.setCell ⟨w.heap.size, 0, none⟩ (.int .i64 23)).setCell ⟨w.heap.size, 1, none⟩ (.int .i64 0)).setCell ⟨w.heap.size, 2, none⟩ (.int .i64 0)).setCell ⟨w.heap.size, 3, none⟩ (.int .i64 m)).setCell ⟨w.heap.size, 4, none⟩ (.int .i64 1)).drew).cell? ⟨w2.heap.size, 3, none⟩ = some (.int .i64 m) := Q5.cell 3
    have e4 : ((((((W3.setCell ⟨w.heap.size, 0, none⟩ (.int .i64 23)).setCell ⟨w.heap.size, 1, none⟩ (.int .i64 0)).setCell ⟨w.heap.size, 2, none⟩ (.int .i64 0)).setCell ⟨w.heap.size, 3, none⟩ (.int .i64 m)).setCell ⟨w.heap.size, 4, none⟩ (.int .i64 1)).drew).cell? ⟨w2.heap.size, 4, none⟩ = some (.int .i64 1) := Q5.cell 4
    clear Q5
    go_simp
    refine hK.out _ _ ⟨e0, e1, e2, e3, e4, B5⟩ (fun hHeld => ?_)
    clear hK K
    (try simp only [Act.put, List.setIfInBounds_toArray, List.set_cons_zero, List.set_cons_succ])
    refine wpAnyH_take (i := 7) (oi := ({ dst := some 3, op := Op.assign (Operand.tmp 39), type := 4, pos := "l05_code.go:129", after := #[{ on := 5, ground := Ground.data }, { on := 6, ground := Ground.chain }, { on := 0, ground := Ground.phase }, { on := 1, ground := Ground.phase }, { on := 2, ground := Ground.phase }, { on := 3, ground := Ground.phase }, { on := 4, ground := Ground.phase }, { on := 5, ground := Ground.phase }, { on := 6, ground := Ground.phase }], guard := none } : Oper)) (v := ?_) rfl (by kernel_rfl) (by kernel_rfl) (by kernel_rfl) (fun _ _ _ h => h) (Or.inl ⟨by rfl, ?_⟩) (by assumption) ?_
    rotate_left
    · intro w hSw
      (try dsimp only at hSw)
      go_simp
      (try with_reducible rfl)
    (try simp only [Act.put, List.setIfInBounds_toArray, List.set_cons_zero, List.set_cons_succ])
    refine wpAnyH_done (by kernel_rfl) ?_ _
    go_wp2
    refine bodyPost_ret (v := .tuple #[insV 23 0 0 m 1, .bool false]) (by simp [results, Tryd.results50, go_sem, x0]) rfl ⟨hN.out _ _ _ _ _, B5.out⟩
end Go.Proofs.YtneagomkohoceaaDoor

/- An instruction that is read, as the specification reads it: the loops over words. -/
namespace Go.Proofs.YtneagomkohoceaaDoor
open Go.ChangeShapes Go.WideShapes Go.ChangeAt Go.RowKit
set_option linter.unusedVariables false
set_option linter.unusedSimpArgs false

theorem main_no {ws : List ByteArray} (h : ∀ k, k < 23 → kdW k ≠ wsAt ws 0) (hdb : ¬ (ws.length = 2 ∧ wsAt ws 0 = kdW 23)) : ∀ k, ¬ ReadIs ws k := by
  intro k hk
  by_cases h23 : k = 23
  · subst h23
    have h1 : offL 23 = 1 := by decide +kernel
    exact hdb ⟨by rw [hk.2.2.2.1, h1], hk.2.2.1⟩
  · exact h k (by have := hk.1; omega) hk.2.2.1.symm
theorem main_len {ws : List ByteArray} {k : Nat} (hk : k < 23) (e : kdW k = wsAt ws 0) (hl : ws.length ≠ 1 + offL k) : ∀ j, ¬ ReadIs ws j := by
  intro j hj
  obtain rfl := hj.op (by omega) e.symm
  exact hl hj.2.2.2.1
theorem main_num {ws : List ByteArray} {k i : Nat} (hk : k < 23) (e : kdW k = wsAt ws 0) (h1 : 1 ≤ i) (h2 : i < ws.length) (hn : ¬ isNum (wsAt ws i)) : ∀ j, ¬ ReadIs ws j := by
  intro j hj
  exact hn (hj.2.2.2.2.1 i h1 h2)
/-- while the numbers are read: j of them are there, in block X -/
structure XSt (w W : World) (ws : List ByteArray) (g k X j : Nat) : Prop where
  r : RSt w W ws g
  x : Blk W X (insX k ws j)
  far : w.heap.size < X
  num : ∀ i, 1 ≤ i → i ≤ j → isNum (wsAt ws i)
theorem XSt.below {w W W' : World} {ws : List ByteArray} {g k X j : Nat} (h : XSt w W ws g k X j) (hb : Below W.heap.size W W') : XSt w W' ws g k X j := ⟨h.r.below hb, h.x.below hb h.x.lt, h.far, h.num⟩
theorem XSt.next {w W : World} {ws : List ByteArray} {g k X j o : Nat} {m : Int} (h : XSt w W ws g k X j) (hk : k < 24) (hj : j < offL k) (hg : g ≠ X) (ho : (offsK (kdN k)).getD j 0 = o) (hm : m = numW ws (j + 1)) (hn : isNum (wsAt ws (j + 1))) : XSt w (W.setCell ⟨X, o, none⟩ (.int .i64 m)) ws g k X (j + 1) := by
  refine ⟨⟨h.r.q.other (by have := h.far; dsimp only; omega) _, fun i hi => ?_, h.r.bel.setCell (p := ⟨X, o, none⟩) (by have := h.far; dsimp only; omega) _⟩, ?_, h.far, fun i h1 h2 => ?_⟩
  · have e : (W.setCell ⟨X, o, none⟩ (.int .i64 m)).heap[g]? = W.heap[g]? := Below.heap_setCell _ _ _ _ hg
    rw [World.cell?_of_block (w := W) (a := ⟨g, i, none⟩) e]
    exact h.r.vc i hi
  · rw [← insX_set hk hj, ho, hm]
    exact h.x.set o _
  · by_cases e : i = j + 1
    · rw [e]; exact hn
    · exact h.num i h1 (by omega)
theorem main_ok {w W : World} {ws : List ByteArray} {g k X : Nat} (h : XSt w W ws g k X (offL k)) (hk : k < 23) (e : kdW k = wsAt ws 0) (hl : ws.length = 1 + offL k) {r : Bool} (hr : okI (k : Int) (insN k ws (offL k)).1 (insN k ws (offL k)).2.1 (insN k ws (offL k)).2.2 (lenM (kdN k)) = r) : RdP ws (.returned (.tuple #[insY k ws, .bool r])) := by
  cases r
  · refine .inr ⟨fun j hj => ?_, _, _, _, _, _, rfl⟩
    obtain rfl := hj.op (by omega) e.symm
    have := hj.2.2.2.2.2
    rw [hr] at this
    cases this
  · exact .inl ⟨k, ⟨by omega, by omega, e.symm, hl, fun i h1 h2 => h.num i h1 (by omega), hr⟩, rfl⟩
set_option maxRecDepth 100000 in
set_option maxHeartbeats 1000000 in
theorem read_zero (s : ByteArray) (w : World) (ws : List ByteArray) (hws : wordsB s = ws) (hs : s.size ≤ 65536) (h0 : ws.length = 0) :
    Calls Tryd.prog 50 #[.string s] w fun e w' => RdP ws e ∧ Below w.heap.size w w' := by
  have hNo : Hid (∀ o a b n l, RdP ws (.returned (.tuple #[insV o a b n l, .bool false]))) := RdP.none (fun k hk => by have := hk.2.1; omega)
  replace hws := hid hws
  go_enter Tryd.func50, Tryd.ntmps50
  go_wp2_with fail
  refine (words_spec0 s _ hs).mono ?_
  rintro e w1 ⟨v, rfl, hown, hb⟩
  rw [hws.out] at hown
  obtain ⟨va, vc, g, rfl, hvc, hva, hR⟩ := RSt.start hb hown
  rw [h0]
  replace hR := hid hR
  clear hb hown hva hvc
  go_wp2
  refine wp_loop_rounds 1 ?_
  rw [rounds_succ]
  go_wp2_with fail
  refine (words_spec _).mono ?_
  rintro e w2 ⟨⟨g1, rfl, _⟩, hb⟩
  have hR2 := hid (hR.out.below hb)
  clear hb hR
  have x0 := hR2.out.q.cell
  have f0 := hR2.out.q.frozen
  have z0 := hR2.out.q.lt
  have b0 := hid hR2.out.bel
  go_wp2
  refine bodyPost_ret (v := .tuple #[insV 0 0 0 0 0, .bool false]) (by simp [results, Tryd.results50, go_sem, x0]) rfl ⟨hNo.out _ _ _ _ _, ?_⟩
  iterate 5 refine Below.setCell ?_ (by first | omega | (simp; done) | (simp; omega)) _
  exact b0.out
set_option maxRecDepth 100000 in
set_option maxHeartbeats 4000000 in
theorem read_main (s : ByteArray) (w : World) (ws : List ByteArray) (hws : wordsB s = ws) (hs : s.size ≤ 65536) (h0 : 0 < ws.length) (hdb : ¬ (ws.length = 2 ∧ wsAt ws 0 = kdW 23)) :
    Calls Tryd.prog 50 #[.string s] w fun e w' => RdP ws e ∧ Below w.heap.size w w' := by
  have hsz : Hid (∀ i, (wsAt ws i).size ≤ 1000000) := fun i => by rw [← hws]; have := words_size s i; omega
  have hk23 : kdW 23 = ⟨#[100, 98]⟩ := by decide +kernel
  have hq2 : Hid (ws.length = 2 → ((wsAt ws 0).toList == (⟨#[100, 98]⟩ : ByteArray).toList) = false) := fun h => bl_no (by rw [← hk23]; exact fun e => hdb ⟨h, e⟩)
  replace hws := hid hws
  replace hdb := hid hdb
  obtain ⟨n1, hn1⟩ : ∃ n, ws.length = n := ⟨_, rfl⟩
  have hn0 : (0 : Int) < (n1 : Int) := by omega
  obtain ⟨t, ht⟩ : ∃ t, wsAt ws 0 = t := ⟨_, rfl⟩
  go_enter Tryd.func50, Tryd.ntmps50
  go_wp2_with fail
  refine (words_spec0 s _ hs).mono ?_
  rintro e w1 ⟨v, rfl, hown, hb⟩
  rw [hws.out] at hown
  obtain ⟨va, vc, g, rfl, hvc, hva, hR⟩ := RSt.start hb hown
  have hva' := hva h0
  subst hva'
  have c0 := hR.vc 0 h0
  rw [hn1] at hvc hq2 ⊢
  rw [ht] at c0 hq2
  replace hR := hid hR
  replace hn1 := hid hn1
  replace ht := hid ht
  clear hb hown hva hk23
  by_cases hl2 : n1 = 2
  · have hq := hq2.out hl2
    have hqL : (t.toList == [100, 98]) = false := by rw [← hq, bl_list ⟨#[100, 98]⟩]
    have hq3 : ((n1 : Int) == 2) = true := by simp; omega
    replace hl2 := hid hl2
    clear hq2
    go_upto_region 6 with fail
    clear hq hqL hq3 hl2 c0
    go_wp2
    go_loopw [8, 9] (fun q i wr => ∃ j : Nat, j ≤ 23 ∧ i = .int .i64 j ∧ q = .int .i64 (opJ t j) ∧ RSt w wr ws g) (fun _ i _ => 23 - (intOf i).toNat)
    case atStart => exact ⟨0, by omega, rfl, rfl, hR.out⟩
    case round =>
      obtain ⟨j, hj, rfl, rfl, hS⟩ := hrel
      replace hS := hid hS
      by_cases hlt : j < 23
      · have hlti : (j : Int) < 23 := by omega
        have hst : Hid (opJ t (j + 1) = if kdW j = t then (j : Int) else opJ t j) := rfl
        obtain ⟨OJ, hOJ⟩ : ∃ x, opJ t j = x := ⟨_, rfl⟩
        obtain ⟨WJ, hWJ⟩ : ∃ x, kdW j = x := ⟨_, rfl⟩
        rw [hOJ, hWJ] at hst
        rw [hOJ]
        replace hOJ := hid hOJ
        replace hWJ := hid hWJ
        go_wp2_with fail
        refine (words_spec _).mono ?_
        rintro e wa ⟨⟨g1, rfl, _⟩, hb⟩
        have hS1 := hid (hS.out.below hb)
        clear hb hS
        go_upto_region 10 with fail
        have c0 := hS1.out.vc 0 (by omega)
        rw [ht.out] at c0
        have hSd := hid hS1.out.drew
        refine wp_region_held_drew (S := (fun w' => w'.cell? ⟨g, 0, none⟩ = some (.string t) ∧ Hid (RSt w w' ws g))) (by kernel_rfl) ⟨c0, hSd⟩ (fun hHeld => ?_)
        refine wpAnyH_take (i := 1) (oi := ({ dst := some 52, op := Op.move (Operand.tmp 9), type := 3, pos := "l05_code.go:133", after := #[], guard := none } : Oper)) (v := ?_) rfl (by kernel_rfl) (by kernel_rfl) (by kernel_rfl) (fun _ _ _ h => h) (Or.inl ⟨by rfl, ?_⟩) (by assumption) ?_
        rotate_left
        · intro w hSw
          (try dsimp only at hSw)
          go_simp
          (try with_reducible rfl)
        (try simp only [Act.put, List.setIfInBounds_toArray, List.set_cons_zero, List.set_cons_succ])
        refine wpAnyH_take (i := 4) (oi := ({ dst := some 55, op := Op.move (Operand.tmp 4), type := 37, pos := "l05_code.go:133", after := #[], guard := none } : Oper)) (v := ?_) rfl (by kernel_rfl) (by kernel_rfl) (by kernel_rfl) (fun _ _ _ h => h) (Or.inl ⟨by rfl, ?_⟩) (by assumption) ?_
        rotate_left
        · intro w hSw
          (try dsimp only at hSw)
          go_simp
          (try with_reducible rfl)
        (try simp only [Act.put, List.setIfInBounds_toArray, List.set_cons_zero, List.set_cons_succ])
        refine wpAnyH_take (i := 5) (oi := ({ dst := some 56, op := Op.indexAddr 37 (Operand.tmp 55) (Operand.const (Value.int IntKind.i64 0)), type := 0, pos := "l05_code.go:133", after := #[{ on := 4, ground := Ground.data }], guard := none } : Oper)) (v := ?_) rfl (by kernel_rfl) (by kernel_rfl) (by kernel_rfl) (fun _ _ _ h => h) (Or.inl ⟨by rfl, ?_⟩) (by assumption) ?_
        rotate_left
        · intro w hSw
          (try dsimp only at hSw)
          go_simp
          (try with_reducible rfl)
        (try simp only [Act.put, List.setIfInBounds_toArray, List.set_cons_zero, List.set_cons_succ])
        refine wpAnyH_take (i := 6) (oi := ({ dst := some 57, op := Op.load 9 (Operand.tmp 56), type := 9, pos := "l05_code.go:133", after := #[{ on := 5, ground := Ground.data }], guard := none } : Oper)) (v := ?_) rfl (by kernel_rfl) (by kernel_rfl) (by kernel_rfl) (fun _ _ _ h => h) (Or.inl ⟨by rfl, ?_⟩) (by assumption) ?_
        rotate_left
        · intro w hSw
          (try dsimp only at hSw)
          go_simp
          (try with_reducible rfl)
        (try simp only [Act.put, List.setIfInBounds_toArray, List.set_cons_zero, List.set_cons_succ])
        refine wpAnyH_ready (rs := [0]) (by kernel_rfl) (by simp) ?_
        refine AllReadyH.cons (o := ({ dst := some 51, op := Op.call { callee := Callee.value (Operand.func 65), args := #[], argTypes := #[] }, type := 37, pos := "l05_code.go:133", after := #[], guard := none } : Oper)) rfl (fun K hK => ?_) AllReadyH.nil
        go_simp
        go_at_call 65
        refine (words_spec _).mono ?_
        rintro e wb ⟨⟨g2, rfl, hw⟩, hb⟩
        have xw := hw j hlt
        rw [hWJ.out] at xw
        have hS2 := hid (hSd.out.below hb)
        have c2 := hS2.out.vc 0 (by omega)
        rw [ht.out] at c2
        clear hb hw
        go_wp2_with fail
        refine hK.out _ _ ⟨c2, hS2⟩ (fun hHeld => ?_)
        clear hK K
        (try simp only [Act.put, List.setIfInBounds_toArray, List.set_cons_zero, List.set_cons_succ])
        refine wpAnyH_take (i := 2) (oi := ({ dst := some 53, op := Op.indexAddr 37 (Operand.tmp 51) (Operand.tmp 52), type := 0, pos := "l05_code.go:133", after := #[{ on := 0, ground := Ground.data }, { on := 1, ground := Ground.data }], guard := none } : Oper)) (v := ?_) rfl (by kernel_rfl) (by kernel_rfl) (by kernel_rfl) (fun _ _ _ h => h) (Or.inl ⟨by rfl, ?_⟩) (by assumption) ?_
        rotate_left
        · intro w hSw
          (try dsimp only at hSw)
          go_simp
          (try with_reducible rfl)
        (try simp only [Act.put, List.setIfInBounds_toArray, List.set_cons_zero, List.set_cons_succ])
        refine wpAnyH_ready (rs := [3]) (by kernel_rfl) (by simp) ?_
        refine AllReadyH.cons (o := ({ dst := some 54, op := Op.load 9 (Operand.tmp 53), type := 9, pos := "l05_code.go:133", after := #[{ on := 2, ground := Ground.data }], guard := none } : Oper)) rfl (fun K hK => ?_) AllReadyH.nil
        go_simp
        go_wp2_with fail
        refine hK.out _ _ ⟨c2, hS2⟩ (fun hHeld => ?_)
        clear hK K
        (try simp only [Act.put, List.setIfInBounds_toArray, List.set_cons_zero, List.set_cons_succ])
        refine wpAnyH_take (i := 7) (oi := ({ dst := some 58, op := Op.binOp BinOp.eql 9 (Operand.tmp 54) (Operand.tmp 57) 9, type := 4, pos := "l05_code.go:133", after := #[{ on := 3, ground := Ground.data }, { on := 6, ground := Ground.data }], guard := none } : Oper)) (v := ?_) rfl (by kernel_rfl) (by kernel_rfl) (by kernel_rfl) (fun _ _ _ h => h) (Or.inl ⟨by rfl, ?_⟩) (by assumption) ?_
        rotate_left
        · intro w hSw
          (try dsimp only at hSw)
          go_simp
          (try with_reducible rfl)
        (try simp only [Act.put, List.setIfInBounds_toArray, List.set_cons_zero, List.set_cons_succ])
        refine wpAnyH_done (by kernel_rfl) ?_ _
        clear c0 c2 xw hS1 hSd
        cases hq : (WJ.toList == t.toList)
        · have hq' : WJ ≠ t := bl_ne hq
          have hO2 := hid (hst.out.trans (if_neg hq'))
          clear hst hq'
          go_wp2
          go_roundw
          case rel => exact ⟨j + 1, by omega, by go_num, by rw [hO2.out], hS2.out⟩
          case measure => simp [intOf]; omega
        · have hq' : WJ = t := (bl_eq _ _).1 hq
          have hO2 := hid (hst.out.trans (if_pos hq'))
          clear hst hq'
          go_wp2
          go_roundw
          case rel => exact ⟨j + 1, by omega, by go_num, by rw [hO2.out], hS2.out⟩
          case measure => simp [intOf]; omega
      · obtain rfl : j = 23 := by omega
        go_wp2_with fail
        refine (words_spec _).mono ?_
        rintro e wa ⟨⟨g1, rfl, _⟩, hb⟩
        have hS1 := hid (hS.out.below hb)
        clear hb hS hR
        by_cases hop : ∃ k, k < 23 ∧ kdW k = t
        rotate_left
        · have hO : opJ t 23 = -1 := opJ_none 23 (fun i hi e => hop ⟨i, hi, e⟩)
          have hNo := hid (RdP.none (main_no (ws := ws) (fun k hk e => hop ⟨k, hk, e.trans ht.out⟩) hdb.out))
          rw [hO]
          clear hop
          have x0 := hS1.out.q.cell
          have f0 := hS1.out.q.frozen
          have z0 := hS1.out.q.lt
          have b0 := hid hS1.out.bel
          go_wp2
          refine bodyPost_ret (v := .tuple #[insV 0 0 0 0 0, .bool false]) (by simp [results, Tryd.results50, go_sem, x0]) rfl ⟨hNo.out _ _ _ _ _, ?_⟩
          iterate 5 refine Below.setCell ?_ (by first | omega | (simp; done) | (simp; omega)) _
          exact b0.out
        obtain ⟨k, hk, hkt⟩ := hop
        have hO : opJ t 23 = (k : Int) := opJ_some (by omega) hkt 23 hk (by omega)
        have hkw := hid (hkt.trans ht.out.symm)
        rw [hO]
        clear hO hkt
        have hf := form_offs k hk
        have hfs := hf.1
        have hk0 : ¬ (k : Int) < 0 := by omega
        go_wp2_with fail
        refine (form_spec k _ hk).mono ?_
        rintro e wb ⟨rfl, hb⟩
        have hS2 := hid (hS1.out.below hb)
        clear hb hS1
        obtain ⟨F1, hF1⟩ : ∃ x, formT k = x := ⟨_, rfl⟩
        rw [hF1] at hfs
        rw [hF1]
        replace hf := hid hf
        have hol := offL_le (k := k) (by omega)
        by_cases hl : ws.length = 1 + offL k
        rotate_left
        · have hNo := hid (RdP.none (main_len hk hkw.out hl))
          have hne : ((n1 : Int) != 1 + (F1.size : Int)) = true := by rw [bne_iff_ne]; intro h; apply hl; rw [hn1.out]; omega
          have hb1 : F1.size ≤ 2 := by omega
          clear hl hf hfs
          have x0 := hS2.out.q.cell
          have f0 := hS2.out.q.frozen
          have z0 := hS2.out.q.lt
          have b0 := hid hS2.out.bel
          go_wp2
          refine bodyPost_ret (v := .tuple #[insV 0 0 0 0 0, .bool false]) (by simp [results, Tryd.results50, go_sem, x0]) rfl ⟨hNo.out _ _ _ _ _, ?_⟩
          iterate 5 refine Below.setCell ?_ (by first | omega | (simp; done) | (simp; omega)) _
          exact b0.out
        have hne : ((n1 : Int) != 1 + (F1.size : Int)) = false := by rw [bne_eq_false_iff_eq, ← hn1.out]; omega
        have hb1 : F1.size ≤ 2 := by omega
        have hlb := hid (len_bit k hk)
        obtain ⟨pB, hpB⟩ : ∃ x, hasC k 66 = x := ⟨_, rfl⟩
        obtain ⟨pN, hpN⟩ : ∃ x, hasC k 78 = x := ⟨_, rfl⟩
        rw [hpB, hpN] at hlb
        obtain ⟨iL, hiL⟩ : ∃ x, bitI (pB || pN) = x := ⟨_, rfl⟩
        have hbL := bitI_bd (pB || pN)
        rw [hiL] at hlb hbL
        replace hpB := hid hpB
        replace hpN := hid hpN
        replace hiL := hid hiL
        replace hF1 := hid hF1
        replace hfs := hid hfs
        go_wp2_with fail
        refine (has_spec k 66 _ hk).mono ?_
        rintro e wc ⟨rfl, hb⟩
        rw [hpB.out]
        have hS3 := hid (hS2.out.below hb)
        clear hb hS2
        cases pB
        · skip
          go_wp2_with fail
          refine (has_spec k 78 _ hk).mono ?_
          rintro e wd ⟨rfl, hb⟩
          rw [hpN.out]
          have hS4 := hid (hS3.out.below hb)
          clear hb hS3
          have hiL' : Hid (bitI pN = iL) := hiL.out
          go_wp2_with (go_at_call 49; refine (bitI_spec _ _).mono ?_; rintro e w' ⟨rfl, hww⟩; obtain rfl := hww.symm; rw [hiL'.out])
          have hfar := hid hS4.out.q.lt
          have hgX : g ≠ wd.heap.size := by have := World.block_lt_of_cell? _ _ (hS4.out.vc 0 h0); dsimp only at this; omega
          have X0 : Hid (XSt w (wd.alloc (.cells #[.int .i64 (k : Int), .int .i64 0, .int .i64 0, .int .i64 0, .int .i64 (1 + iL)] 24)) ws g k wd.heap.size 0) := ⟨hS4.out.alloc _, by have := Blk.new wd #[.int .i64 (k : Int), .int .i64 0, .int .i64 0, .int .i64 0, .int .i64 (1 + iL)] 24; rw [hlb.out] at this ⊢; exact this, hfar.out, fun i h1 h2 => by omega⟩
          clear hS4
          go_wp2
          go_loopw [11] (fun i wr => ∃ j : Nat, j ≤ offL k ∧ i = .int .i64 ((1 + j : Nat) : Int) ∧ XSt w wr ws g k wd.heap.size j) (fun i _ => 1 + offL k - (intOf i).toNat)
          case atStart => exact ⟨0, by omega, rfl, X0.out⟩
          case round =>
            obtain ⟨j, hj, rfl, hX⟩ := hrel
            clear X0
            obtain ⟨I, hI⟩ : ∃ I, 1 + j = I := ⟨_, rfl⟩
            rw [hI]
            by_cases hlt : j < offL k
            · have hIlt : (I : Int) < (n1 : Int) := by rw [← hn1.out]; omega
              have c1 := hX.r.vc (j + 1) (by omega)
              rw [show j + 1 = I by omega] at c1
              have hix := run_idx F1 ((I : Int) - 1) j (by omega) (by rw [hfs.out]; exact hlt)
              have hzj := hf.out.2 j hlt
              rw [hF1.out] at hzj
              have hnx : Hid (∀ W o m, XSt w W ws g k wd.heap.size j → (offsK (kdN k)).getD j 0 = o → m = numW ws (j + 1) → isNum (wsAt ws (j + 1)) → XSt w (W.setCell ⟨wd.heap.size, o, none⟩ (.int .i64 m)) ws g k wd.heap.size (j + 1)) := fun W o m h1 h2 h3 h4 => h1.next (by omega) hlt hgX h2 h3 h4
              have hnu : numW ws (j + 1) = valS (wsAt ws I) (wsAt ws I).size := by rw [← hI, Nat.add_comm 1 j]; rfl
              have hn2 : Hid (¬ isNum (wsAt ws I) → ∀ o a b n l, RdP ws (.returned (.tuple #[insV o a b n l, .bool false]))) := fun h => RdP.none (main_num hk hkw.out (i := I) (by omega) (by omega) h)
              have hI2 : j + 1 = I := by omega
              have hIb : 1 ≤ (I : Int) ∧ (I : Int) ≤ 3 := by omega
              rw [hI2] at hnx hnu
              have hszI := hsz.out I
              have hoj := offs_at (k := k) (j := j) (by omega) hlt
              replace hX := hid hX
              generalize wsAt ws I = tj at *
              go_wp2_with fail
              refine (num_spec tj _ hszI).mono ?_
              rintro e v1 ⟨⟨m, rfl, hm⟩, hb⟩
              have hX1 := hid (hX.out.below hb)
              clear hb hX c1
              by_cases hn : isNum tj
              rotate_left
              · rw [decide_eq_false hn]
                have hNo := hid (hn2.out hn)
                have hR1 := hid hX1.out.r
                clear hm hn2 hnx hix
                have x0 := hR1.out.q.cell
                have f0 := hR1.out.q.frozen
                have z0 := hR1.out.q.lt
                have b0 := hid hR1.out.bel
                go_wp2
                refine bodyPost_ret (v := .tuple #[insV 0 0 0 0 0, .bool false]) (by simp [results, Tryd.results50, go_sem, x0]) rfl ⟨hNo.out _ _ _ _ _, ?_⟩
                iterate 5 refine Below.setCell ?_ (by first | omega | (simp; done) | (simp; omega)) _
                exact b0.out
              rw [decide_eq_true hn]
              have em := hid ((hm hn).trans hnu.symm)
              clear hm hnu hn2
              go_wp2_with fail
              refine (form_spec k _ hk).mono ?_
              rintro e v2 ⟨rfl, hb⟩
              rw [hF1.out]
              have hX2 := hid (hX1.out.below hb)
              clear hb hX1
              have hx2 := hX2.out.x.cell
              have hfr := hX2.out.x.frozen
              have hxl := hX2.out.x.lt
              obtain ⟨o, ho⟩ : ∃ o, (offsK (kdN k)).getD j 0 = o := ⟨_, rfl⟩
              rw [ho] at hzj hoj
              have hX3 := hid (hnx.out v2 o m hX2.out ho em.out hn)
              clear hnx em hf
              rcases hoj with rfl | rfl | rfl
              all_goals
                simp only [if_true, if_false, Nat.reduceEqDiff, reduceIte] at hzj
                rw [hzj] at hix
                replace hI := hid hI
                replace hI2 := hid hI2
                go_wp2
                go_roundw
                case rel => exact ⟨j + 1, by omega, congrArg (Value.int .i64) (by have := hI.out; omega), by rw [hI2.out]; exact hX3.out⟩
                case measure => have := hI.out; simp [intOf]; omega
            · obtain rfl : j = offL k := by omega
              have hge : ¬ (I : Int) < (n1 : Int) := by rw [← hn1.out]; omega
              have hfin : Hid (∀ r, okI (k : Int) (insN k ws (offL k)).1 (insN k ws (offL k)).2.1 (insN k ws (offL k)).2.2 (lenM (kdN k)) = r → RdP ws (.returned (.tuple #[insY k ws, .bool r]))) := fun r hr => main_ok hX hk hkw.out hl hr
              have R3 := hid hX.r
              have Q3 := hid hX.x
              have hfa := hX.far
              clear hX
              go_upto_region 27 with fail
              have d0 : wr.cell? ⟨wd.heap.size, 0, none⟩ = some (.int .i64 (k : Int)) := Q3.out.cell 0
              have d1 : wr.cell? ⟨wd.heap.size, 1, none⟩ = some (.int .i64 (insN k ws (offL k)).1) := Q3.out.cell 1
              have d2 : wr.cell? ⟨wd.heap.size, 2, none⟩ = some (.int .i64 (insN k ws (offL k)).2.1) := Q3.out.cell 2
              have d3 : wr.cell? ⟨wd.heap.size, 3, none⟩ = some (.int .i64 (insN k ws (offL k)).2.2) := Q3.out.cell 3
              have d4 : wr.cell? ⟨wd.heap.size, 4, none⟩ = some (.int .i64 (lenM (kdN k))) := Q3.out.cell 4
              have B3 := hid R3.out.bel.drew
              refine wp_region_held_drew (S := (fun w' => w'.cell? ⟨wd.heap.size, 0, none⟩ = some (.int .i64 (k : Int)) ∧ w'.cell? ⟨wd.heap.size, 1, none⟩ = some (.int .i64 (insN k ws (offL k)).1) ∧ w'.cell? ⟨wd.heap.size, 2, none⟩ = some (.int .i64 (insN k ws (offL k)).2.1) ∧ w'.cell? ⟨wd.heap.size, 3, none⟩ = some (.int .i64 (insN k ws (offL k)).2.2) ∧ w'.cell? ⟨wd.heap.size, 4, none⟩ = some (.int .i64 (lenM (kdN k))) ∧ Hid (Below w.heap.size w w'))) (by kernel_rfl) ⟨d0, d1, d2, d3, d4, B3⟩ (fun hHeld => ?_)
              refine wpAnyH_take (i := 0) (oi := ({ dst := some 114, op := Op.load 24 (Operand.tmp 10), type := 24, pos := "l05_code.go:155", after := #[], guard := none } : Oper)) (v := ?_) rfl (by kernel_rfl) (by kernel_rfl) (by kernel_rfl) (fun _ _ _ h => h) (Or.inl ⟨by rfl, ?_⟩) (by assumption) ?_
              rotate_left
              · intro w hSw
                (try dsimp only at hSw)
                go_simp
                (try with_reducible rfl)
              (try simp only [Act.put, List.setIfInBounds_toArray, List.set_cons_zero, List.set_cons_succ])
              refine wpAnyH_take (i := 1) (oi := ({ dst := some 115, op := Op.load 24 (Operand.tmp 10), type := 24, pos := "l05_code.go:155", after := #[], guard := none } : Oper)) (v := ?_) rfl (by kernel_rfl) (by kernel_rfl) (by kernel_rfl) (fun _ _ _ h => h) (Or.inl ⟨by rfl, ?_⟩) (by assumption) ?_
              rotate_left
              · intro w hSw
                (try dsimp only at hSw)
                go_simp
                (try with_reducible rfl)
              (try simp only [Act.put, List.setIfInBounds_toArray, List.set_cons_zero, List.set_cons_succ])
              refine wpAnyH_ready (rs := [2]) (by kernel_rfl) (by simp) ?_
              refine AllReadyH.cons (o := ({ dst := some 116, op := Op.call { callee := Callee.value (Operand.func 28), args := #[Operand.tmp 115], argTypes := #[24] }, type := 4, pos := "l05_code.go:155", after := #[{ on := 1, ground := Ground.data }], guard := none } : Oper)) rfl (fun K hK => ?_) AllReadyH.nil
              go_simp
              go_at_call 28
              refine (insok_spec _ _ _ _ _ _).mono ?_
              rintro e w4 ⟨rfl, hb⟩
              have Q4 := hid ((blk_drew Q3.out).below hb Q3.out.lt)
              have R4 := hid (R3.out.drew.below hb)
              have B4 := hid R4.out.bel
              have f0 : w4.cell? ⟨wd.heap.size, 0, none⟩ = some (.int .i64 (k : Int)) := Q4.out.cell 0
              have f1 : w4.cell? ⟨wd.heap.size, 1, none⟩ = some (.int .i64 (insN k ws (offL k)).1) := Q4.out.cell 1
              have f2 : w4.cell? ⟨wd.heap.size, 2, none⟩ = some (.int .i64 (insN k ws (offL k)).2.1) := Q4.out.cell 2
              have f3 : w4.cell? ⟨wd.heap.size, 3, none⟩ = some (.int .i64 (insN k ws (offL k)).2.2) := Q4.out.cell 3
              have f4 : w4.cell? ⟨wd.heap.size, 4, none⟩ = some (.int .i64 (lenM (kdN k))) := Q4.out.cell 4
              clear hb
              go_wp2_with fail
              refine hK.out _ _ ⟨f0, f1, f2, f3, f4, B4⟩ (fun hHeld => ?_)
              clear hK K
              (try simp only [Act.put, List.setIfInBounds_toArray, List.set_cons_zero, List.set_cons_succ])
              clear f0 f1 f2 f3 f4
              refine wpAnyH_ready (rs := [3]) (by kernel_rfl) (by simp) ?_
              refine AllReadyH.cons (o := ({ dst := none, op := Op.store 24 (Operand.tmp 2) (Operand.tmp 114), type := 0, pos := "l05_code.go:155", after := #[{ on := 0, ground := Ground.data }, { on := 2, ground := Ground.chain }, { on := 0, ground := Ground.phase }, { on := 1, ground := Ground.textOnly Departure.lateStores }, { on := 2, ground := Ground.textOnly Departure.lateStoresUnsure }], guard := none } : Oper)) rfl (fun K hK => ?_) AllReadyH.nil
              have x0 := R4.out.q.cell
              have f0 := R4.out.q.frozen
              have z0 := R4.out.q.lt
              have Q5 := (((((Q4.out.other (p := ⟨w.heap.size, 0, none⟩) (by dsimp only; omega) (.int .i64 (k : Int))).other (p := ⟨w.heap.size, 1, none⟩) (by dsimp only; omega) (.int .i64 (insN k ws (offL k)).1)).other (p := ⟨w.heap.size, 2, none⟩) (by dsimp only; omega) (.int .i64 (insN k ws (offL k)).2.1)).other (p := ⟨w.heap.size, 3, none⟩) (by dsimp only; omega) (.int .i64 (insN k ws (offL k)).2.2)).other (p := ⟨w.heap.size, 4, none⟩) (by dsimp only; omega) (.int .i64 (lenM (kdN k))))
              have B5 : Hid (Below w.heap.size w (((((w4.setCell ⟨w.heap.size, 0, none⟩ (.int .i64 (k : Int))).setCell ⟨w.heap.size, 1, none⟩ (.int .i64 (insN k ws (offL k)).1)).setCell ⟨w.heap.size, 2, none⟩ (.int .i64 (insN k ws (offL k)).2.1)).setCell ⟨w.heap.size, 3, none⟩ (.int .i64 (insN k ws (offL k)).2.2)).setCell ⟨w.heap.size, 4, none⟩ (.int .i64 (lenM (kdN k))))) := hid (((((B4.out.setCell (p := ⟨w.heap.size, 0, none⟩) (by dsimp only; omega) (.int .i64 (k : Int))).setCell (p := ⟨w.heap.size, 1, none⟩) (by dsimp only; omega) (.int .i64 (insN k ws (offL k)).1)).setCell (p := ⟨w.heap.size, 2, none⟩) (by dsimp only; omega) (.int .i64 (insN k ws (offL k)).2.1)).setCell (p := ⟨w.heap.size, 3, none⟩) (by dsimp only; omega) (.int .i64 (insN k ws (offL k)).2.2)).setCell (p := ⟨w.heap.size, 4, none⟩) (by dsimp only; omega) (.int .i64 (lenM (kdN k))))
              have e0 : (((((w4.setCell ⟨w.heap.size, 0, none⟩ (.int .i64 (k : Int))).setCell ⟨w.heap.size, 1, none⟩ (.int .i64 (insN k ws (offL k)).1)).setCell ⟨w.heap.size, 2, none⟩ (.int .i64 (insN k ws (offL k)).2.1)).setCell ⟨w.heap.size, 3, none⟩ (.int .i64 (insN k ws (offL k)).2.2)).setCell ⟨w.heap.size, 4, none⟩ (.int .i64 (lenM (kdN k)))).cell? ⟨wd.heap.size, 0, none⟩ = some (.int .i64 (k : Int)) := Q5.cell 0
              have e1 : (((((w4.setCell ⟨w.heap.size, 0, none⟩ (.int .i64 (k : Int))).setCell ⟨w.heap.size, 1, none⟩ (.int .i64 (insN k ws (offL k)).1)).setCell ⟨w.heap.size, 2, none⟩ (.int .i64 (insN k ws (offL k)).2.1)).setCell ⟨w.heap.size, 3, none⟩ (.int .i64 (insN k ws (offL k)).2.2)).setCell ⟨w.heap.size, 4, none⟩ (.int .i64 (lenM (kdN k)))).cell? ⟨wd.heap.size, 1, none⟩ = some (.int .i64 (insN k ws (offL k)).1) := Q5.cell 1
              have e2 : (((((w4.setCell ⟨w.heap.size, 0, none⟩ (.int .i64 (k : Int))).setCell ⟨w.heap.size, 1, none⟩ (.int .i64 (insN k ws (offL k)).1)).setCell ⟨w.heap.size, 2, none⟩ (.int .i64 (insN k ws (offL k)).2.1)).setCell ⟨w.heap.size, 3, none⟩ (.int .i64 (insN k ws (offL k)).2.2)).setCell ⟨w.heap.size, 4, none⟩ (.int .i64 (lenM (kdN k)))).cell? ⟨wd.heap.size, 2, none⟩ = some (.int .i64 (insN k ws (offL k)).2.1) := Q5.cell 2
              have e3 : (((((w4.setCell ⟨w.heap.size, 0, none⟩ (.int .i64 (k : Int))).setCell ⟨w.heap.size, 1, none⟩ (.int .i64 (insN k ws (offL k)).1)).setCell ⟨w.heap.size, 2, none⟩ (.int .i64 (insN k ws (offL k)).2.1)).setCell ⟨w.heap.size, 3, none⟩ (.int .i64 (insN k ws (offL k)).2.2)).setCell ⟨w.heap.size, 4, none⟩ (.int .i64 (lenM (kdN k)))).cell? ⟨wd.heap.size, 3, none⟩ = some (.int .i64 (insN k ws (offL k)).2.2) := Q5.cell 3
              have e4 : (((((w4.setCell ⟨w.heap.size, 0, none⟩ (.int .i64 (k : Int))).setCell ⟨w.heap.size, 1, none⟩ (.int .i64 (insN k ws (offL k)).1)).setCell ⟨w.heap.size, 2, none⟩ (.int .i64 (insN k ws (offL k)).2.1)).setCell ⟨w.heap.size, 3, none⟩ (.int .i64 (insN k ws (offL k)).2.2)).setCell ⟨w.heap.size, 4, none⟩ (.int .i64 (lenM (kdN k)))).cell? ⟨wd.heap.size, 4, none⟩ = some (.int .i64 (lenM (kdN k))) := Q5.cell 4
              clear Q5
              go_simp
              refine hK.out _ _ ⟨e0, e1, e2, e3, e4, B5⟩ (fun hHeld => ?_)
              clear hK K
              (try simp only [Act.put, List.setIfInBounds_toArray, List.set_cons_zero, List.set_cons_succ])
              refine wpAnyH_take (i := 4) (oi := ({ dst := some 3, op := Op.assign (Operand.tmp 116), type := 4, pos := "l05_code.go:155", after := #[{ on := 2, ground := Ground.data }, { on := 3, ground := Ground.chain }, { on := 0, ground := Ground.phase }, { on := 1, ground := Ground.phase }, { on := 2, ground := Ground.phase }, { on := 3, ground := Ground.phase }], guard := none } : Oper)) (v := ?_) rfl (by kernel_rfl) (by kernel_rfl) (by kernel_rfl) (fun _ _ _ h => h) (Or.inl ⟨by rfl, ?_⟩) (by assumption) ?_
              rotate_left
              · intro w hSw
                (try dsimp only at hSw)
                go_simp
                (try with_reducible rfl)
              (try simp only [Act.put, List.setIfInBounds_toArray, List.set_cons_zero, List.set_cons_succ])
              refine wpAnyH_done (by kernel_rfl) ?_ _
              go_wp2
              have hC := hfin.out _ rfl
              refine bodyPost_ret (v := .tuple #[insY k ws, .bool (okI (k : Int) (insN k ws (offL k)).1 (insN k ws (offL k)).2.1 (insN k ws (offL k)).2.2 (lenM (kdN k)))]) (by simp [results, Tryd.results50, go_sem, x0]) rfl ⟨hC, B5.out⟩
        · skip
          have hiL' : Hid (bitI true = iL) := hiL.out
          go_wp2_with (go_at_call 49; refine (bitI_spec _ _).mono ?_; rintro e w' ⟨rfl, hww⟩; obtain rfl := hww.symm; rw [hiL'.out])
          have hfar := hid hS3.out.q.lt
          have hgX : g ≠ wc.heap.size := by have := World.block_lt_of_cell? _ _ (hS3.out.vc 0 h0); dsimp only at this; omega
          have X0 : Hid (XSt w (wc.alloc (.cells #[.int .i64 (k : Int), .int .i64 0, .int .i64 0, .int .i64 0, .int .i64 (1 + iL)] 24)) ws g k wc.heap.size 0) := ⟨hS3.out.alloc _, by have := Blk.new wc #[.int .i64 (k : Int), .int .i64 0, .int .i64 0, .int .i64 0, .int .i64 (1 + iL)] 24; rw [hlb.out] at this ⊢; exact this, hfar.out, fun i h1 h2 => by omega⟩
          clear hS3
          go_wp2
          go_loopw [11] (fun i wr => ∃ j : Nat, j ≤ offL k ∧ i = .int .i64 ((1 + j : Nat) : Int) ∧ XSt w wr ws g k wc.heap.size j) (fun i _ => 1 + offL k - (intOf i).toNat)
          case atStart => exact ⟨0, by omega, rfl, X0.out⟩
          case round =>
            obtain ⟨j, hj, rfl, hX⟩ := hrel
            clear X0
            obtain ⟨I, hI⟩ : ∃ I, 1 + j = I := ⟨_, rfl⟩
            rw [hI]
            by_cases hlt : j < offL k
            · have hIlt : (I : Int) < (n1 : Int) := by rw [← hn1.out]; omega
              have c1 := hX.r.vc (j + 1) (by omega)
              rw [show j + 1 = I by omega] at c1
              have hix := run_idx F1 ((I : Int) - 1) j (by omega) (by rw [hfs.out]; exact hlt)
              have hzj := hf.out.2 j hlt
              rw [hF1.out] at hzj
              have hnx : Hid (∀ W o m, XSt w W ws g k wc.heap.size j → (offsK (kdN k)).getD j 0 = o → m = numW ws (j + 1) → isNum (wsAt ws (j + 1)) → XSt w (W.setCell ⟨wc.heap.size, o, none⟩ (.int .i64 m)) ws g k wc.heap.size (j + 1)) := fun W o m h1 h2 h3 h4 => h1.next (by omega) hlt hgX h2 h3 h4
              have hnu : numW ws (j + 1) = valS (wsAt ws I) (wsAt ws I).size := by rw [← hI, Nat.add_comm 1 j]; rfl
              have hn2 : Hid (¬ isNum (wsAt ws I) → ∀ o a b n l, RdP ws (.returned (.tuple #[insV o a b n l, .bool false]))) := fun h => RdP.none (main_num hk hkw.out (i := I) (by omega) (by omega) h)
              have hI2 : j + 1 = I := by omega
              have hIb : 1 ≤ (I : Int) ∧ (I : Int) ≤ 3 := by omega
              rw [hI2] at hnx hnu
              have hszI := hsz.out I
              have hoj := offs_at (k := k) (j := j) (by omega) hlt
              replace hX := hid hX
              generalize wsAt ws I = tj at *
              go_wp2_with fail
              refine (num_spec tj _ hszI).mono ?_
              rintro e v1 ⟨⟨m, rfl, hm⟩, hb⟩
              have hX1 := hid (hX.out.below hb)
              clear hb hX c1
              by_cases hn : isNum tj
              rotate_left
              · rw [decide_eq_false hn]
                have hNo := hid (hn2.out hn)
                have hR1 := hid hX1.out.r
                clear hm hn2 hnx hix
                have x0 := hR1.out.q.cell
                have f0 := hR1.out.q.frozen
                have z0 := hR1.out.q.lt
                have b0 := hid hR1.out.bel
                go_wp2
                refine bodyPost_ret (v := .tuple #[insV 0 0 0 0 0, .bool false]) (by simp [results, Tryd.results50, go_sem, x0]) rfl ⟨hNo.out _ _ _ _ _, ?_⟩
                iterate 5 refine Below.setCell ?_ (by first | omega | (simp; done) | (simp; omega)) _
                exact b0.out
              rw [decide_eq_true hn]
              have em := hid ((hm hn).trans hnu.symm)
              clear hm hnu hn2
              go_wp2_with fail
              refine (form_spec k _ hk).mono ?_
              rintro e v2 ⟨rfl, hb⟩
              rw [hF1.out]
              have hX2 := hid (hX1.out.below hb)
              clear hb hX1
              have hx2 := hX2.out.x.cell
              have hfr := hX2.out.x.frozen
              have hxl := hX2.out.x.lt
              obtain ⟨o, ho⟩ : ∃ o, (offsK (kdN k)).getD j 0 = o := ⟨_, rfl⟩
              rw [ho] at hzj hoj
              have hX3 := hid (hnx.out v2 o m hX2.out ho em.out hn)
              clear hnx em hf
              rcases hoj with rfl | rfl | rfl
              all_goals
                simp only [if_true, if_false, Nat.reduceEqDiff, reduceIte] at hzj
                rw [hzj] at hix
                replace hI := hid hI
                replace hI2 := hid hI2
                go_wp2
                go_roundw
                case rel => exact ⟨j + 1, by omega, congrArg (Value.int .i64) (by have := hI.out; omega), by rw [hI2.out]; exact hX3.out⟩
                case measure => have := hI.out; simp [intOf]; omega
            · obtain rfl : j = offL k := by omega
              have hge : ¬ (I : Int) < (n1 : Int) := by rw [← hn1.out]; omega
              have hfin : Hid (∀ r, okI (k : Int) (insN k ws (offL k)).1 (insN k ws (offL k)).2.1 (insN k ws (offL k)).2.2 (lenM (kdN k)) = r → RdP ws (.returned (.tuple #[insY k ws, .bool r]))) := fun r hr => main_ok hX hk hkw.out hl hr
              have R3 := hid hX.r
              have Q3 := hid hX.x
              have hfa := hX.far
              clear hX
              go_upto_region 27 with fail
              have d0 : wr.cell? ⟨wc.heap.size, 0, none⟩ = some (.int .i64 (k : Int)) := Q3.out.cell 0
              have d1 : wr.cell? ⟨wc.heap.size, 1, none⟩ = some (.int .i64 (insN k ws (offL k)).1) := Q3.out.cell 1
              have d2 : wr.cell? ⟨wc.heap.size, 2, none⟩ = some (.int .i64 (insN k ws (offL k)).2.1) := Q3.out.cell 2
              have d3 : wr.cell? ⟨wc.heap.size, 3, none⟩ = some (.int .i64 (insN k ws (offL k)).2.2) := Q3.out.cell 3
              have d4 : wr.cell? ⟨wc.heap.size, 4, none⟩ = some (.int .i64 (lenM (kdN k))) := Q3.out.cell 4
              have B3 := hid R3.out.bel.drew
              refine wp_region_held_drew (S := (fun w' => w'.cell? ⟨wc.heap.size, 0, none⟩ = some (.int .i64 (k : Int)) ∧ w'.cell? ⟨wc.heap.size, 1, none⟩ = some (.int .i64 (insN k ws (offL k)).1) ∧ w'.cell? ⟨wc.heap.size, 2, none⟩ = some (.int .i64 (insN k ws (offL k)).2.1) ∧ w'.cell? ⟨wc.heap.size, 3, none⟩ = some (.int .i64 (insN k ws (offL k)).2.2) ∧ w'.cell? ⟨wc.heap.size, 4, none⟩ = some (.int .i64 (lenM (kdN k))) ∧ Hid (Below w.heap.size w w'))) (by kernel_rfl) ⟨d0, d1, d2, d3, d4, B3⟩ (fun hHeld => ?_)
              refine wpAnyH_take (i := 0) (oi := ({ dst := some 114, op := Op.load 24 (Operand.tmp 10), type := 24, pos := "l05_code.go:155", after := #[], guard := none } : Oper)) (v := ?_) rfl (by kernel_rfl) (by kernel_rfl) (by kernel_rfl) (fun _ _ _ h => h) (Or.inl ⟨by rfl, ?_⟩) (by assumption) ?_
              rotate_left
              · intro w hSw
                (try dsimp only at hSw)
                go_simp
                (try with_reducible rfl)
              (try simp only [Act.put, List.setIfInBounds_toArray, List.set_cons_zero, List.set_cons_succ])
              refine wpAnyH_take (i := 1) (oi := ({ dst := some 115, op := Op.load 24 (Operand.tmp 10), type := 24, pos := "l05_code.go:155", after := #[], guard := none } : Oper)) (v := ?_) rfl (by kernel_rfl) (by kernel_rfl) (by kernel_rfl) (fun _ _ _ h => h) (Or.inl ⟨by rfl, ?_⟩) (by assumption) ?_
              rotate_left
              · intro w hSw
                (try dsimp only at hSw)
                go_simp
                (try with_reducible rfl)
              (try simp only [Act.put, List.setIfInBounds_toArray, List.set_cons_zero, List.set_cons_succ])
              refine wpAnyH_ready (rs := [2]) (by kernel_rfl) (by simp) ?_
              refine AllReadyH.cons (o := ({ dst := some 116, op := Op.call { callee := Callee.value (Operand.func 28), args := #[Operand.tmp 115], argTypes := #[24] }, type := 4, pos := "l05_code.go:155", after := #[{ on := 1, ground := Ground.data }], guard := none } : Oper)) rfl (fun K hK => ?_) AllReadyH.nil
              go_simp
              go_at_call 28
              refine (insok_spec _ _ _ _ _ _).mono ?_
              rintro e w4 ⟨rfl, hb⟩
              have Q4 := hid ((blk_drew Q3.out).below hb Q3.out.lt)
              have R4 := hid (R3.out.drew.below hb)
              have B4 := hid R4.out.bel
              have f0 : w4.cell? ⟨wc.heap.size, 0, none⟩ = some (.int .i64 (k : Int)) := Q4.out.cell 0
              have f1 : w4.cell? ⟨wc.heap.size, 1, none⟩ = some (.int .i64 (insN k ws (offL k)).1) := Q4.out.cell 1
              have f2 : w4.cell? ⟨wc.heap.size, 2, none⟩ = some (.int .i64 (insN k ws (offL k)).2.1) := Q4.out.cell 2
              have f3 : w4.cell? ⟨wc.heap.size, 3, none⟩ = some (.int .i64 (insN k ws (offL k)).2.2) := Q4.out.cell 3
              have f4 : w4.cell? ⟨wc.heap.size, 4, none⟩ = some (.int .i64 (lenM (kdN k))) := Q4.out.cell 4
              clear hb
              go_wp2_with fail
              refine hK.out _ _ ⟨f0, f1, f2, f3, f4, B4⟩ (fun hHeld => ?_)
              clear hK K
              (try simp only [Act.put, List.setIfInBounds_toArray, List.set_cons_zero, List.set_cons_succ])
              clear f0 f1 f2 f3 f4
              refine wpAnyH_ready (rs := [3]) (by kernel_rfl) (by simp) ?_
              refine AllReadyH.cons (o := ({ dst := none, op := Op.store 24 (Operand.tmp 2) (Operand.tmp 114), type := 0, pos := "l05_code.go:155", after := #[{ on := 0, ground := Ground.data }, { on := 2, ground := Ground.chain }, { on := 0, ground := Ground.phase }, { on := 1, ground := Ground.textOnly Departure.lateStores }, { on := 2, ground := Ground.textOnly Departure.lateStoresUnsure }], guard := none } : Oper)) rfl (fun K hK => ?_) AllReadyH.nil
              have x0 := R4.out.q.cell
              have f0 := R4.out.q.frozen
              have z0 := R4.out.q.lt
              have Q5 := (((((Q4.out.other (p := ⟨w.heap.size, 0, none⟩) (by dsimp only; omega) (.int .i64 (k : Int))).other (p := ⟨w.heap.size, 1, none⟩) (by dsimp only; omega) (.int .i64 (insN k ws (offL k)).1)).other (p := ⟨w.heap.size, 2, none⟩) (by dsimp only; omega) (.int .i64 (insN k ws (offL k)).2.1)).other (p := ⟨w.heap.size, 3, none⟩) (by dsimp only; omega) (.int .i64 (insN k ws (offL k)).2.2)).other (p := ⟨w.heap.size, 4, none⟩) (by dsimp only; omega) (.int .i64 (lenM (kdN k))))
              have B5 : Hid (Below w.heap.size w (((((w4.setCell ⟨w.heap.size, 0, none⟩ (.int .i64 (k : Int))).setCell ⟨w.heap.size, 1, none⟩ (.int .i64 (insN k ws (offL k)).1)).setCell ⟨w.heap.size, 2, none⟩ (.int .i64 (insN k ws (offL k)).2.1)).setCell ⟨w.heap.size, 3, none⟩ (.int .i64 (insN k ws (offL k)).2.2)).setCell ⟨w.heap.size, 4, none⟩ (.int .i64 (lenM (kdN k))))) := hid (((((B4.out.setCell (p := ⟨w.heap.size, 0, none⟩) (by dsimp only; omega) (.int .i64 (k : Int))).setCell (p := ⟨w.heap.size, 1, none⟩) (by dsimp only; omega) (.int .i64 (insN k ws (offL k)).1)).setCell (p := ⟨w.heap.size, 2, none⟩) (by dsimp only; omega) (.int .i64 (insN k ws (offL k)).2.1)).setCell (p := ⟨w.heap.size, 3, none⟩) (by dsimp only; omega) (.int .i64 (insN k ws (offL k)).2.2)).setCell (p := ⟨w.heap.size, 4, none⟩) (by dsimp only; omega) (.int .i64 (lenM (kdN k))))
              have e0 : (((((w4.setCell ⟨w.heap.size, 0, none⟩ (.int .i64 (k : Int))).setCell ⟨w.heap.size, 1, none⟩ (.int .i64 (insN k ws (offL k)).1)).setCell ⟨w.heap.size, 2, none⟩ (.int .i64 (insN k ws (offL k)).2.1)).setCell ⟨w.heap.size, 3, none⟩ (.int .i64 (insN k ws (offL k)).2.2)).setCell ⟨w.heap.size, 4, none⟩ (.int .i64 (lenM (kdN k)))).cell? ⟨wc.heap.size, 0, none⟩ = some (.int .i64 (k : Int)) := Q5.cell 0
              have e1 : (((((w4.setCell ⟨w.heap.size, 0, none⟩ (.int .i64 (k : Int))).setCell ⟨w.heap.size, 1, none⟩ (.int .i64 (insN k ws (offL k)).1)).setCell ⟨w.heap.size, 2, none⟩ (.int .i64 (insN k ws (offL k)).2.1)).setCell ⟨w.heap.size, 3, none⟩ (.int .i64 (insN k ws (offL k)).2.2)).setCell ⟨w.heap.size, 4, none⟩ (.int .i64 (lenM (kdN k)))).cell? ⟨wc.heap.size, 1, none⟩ = some (.int .i64 (insN k ws (offL k)).1) := Q5.cell 1
              have e2 : (((((w4.setCell ⟨w.heap.size, 0, none⟩ (.int .i64 (k : Int))).setCell ⟨w.heap.size, 1, none⟩ (.int .i64 (insN k ws (offL k)).1)).setCell ⟨w.heap.size, 2, none⟩ (.int .i64 (insN k ws (offL k)).2.1)).setCell ⟨w.heap.size, 3, none⟩ (.int .i64 (insN k ws (offL k)).2.2)).setCell ⟨w.heap.size, 4, none⟩ (.int .i64 (lenM (kdN k)))).cell? ⟨wc.heap.size, 2, none⟩ = some (.int .i64 (insN k ws (offL k)).2.1) := Q5.cell 2
              have e3 : (((((w4.setCell ⟨w.heap.size, 0, none⟩ (.int .i64 (k : Int))).setCell ⟨w.heap.size, 1, none⟩ (.int .i64 (insN k ws (offL k)).1)).setCell ⟨w.heap.size, 2, none⟩ (.int .i64 (insN k ws (offL k)).2.1)).setCell ⟨w.heap.size, 3, none⟩ (.int .i64 (insN k ws (offL k)).2.2)).setCell ⟨w.heap.size, 4, none⟩ (.int .i64 (lenM (kdN k)))).cell? ⟨wc.heap.size, 3, none⟩ = some (.int .i64 (insN k ws (offL k)).2.2) := Q5.cell 3
              have e4 : (((((w4.setCell ⟨w.heap.size, 0, none⟩ (.int .i64 (k : Int))).setCell ⟨w.heap.size, 1, none⟩ (.int .i64 (insN k ws (offL k)).1)).setCell ⟨w.heap.size, 2, none⟩ (.int .i64 (insN k ws (offL k)).2.1)).setCell ⟨w.heap.size, 3, none⟩ (.int .i64 (insN k ws (offL k)).2.2)).setCell ⟨w.heap.size, 4, none⟩ (.int .i64 (lenM (kdN k)))).cell? ⟨wc.heap.size, 4, none⟩ = some (.int .i64 (lenM (kdN k))) := Q5.cell 4
              clear Q5
              go_simp
              refine hK.out _ _ ⟨e0, e1, e2, e3, e4, B5⟩ (fun hHeld => ?_)
              clear hK K
              (try simp only [Act.put, List.setIfInBounds_toArray, List.set_cons_zero, List.set_cons_succ])
              refine wpAnyH_take (i := 4) (oi := ({ dst := some 3, op := Op.assign (Operand.tmp 116), type := 4, pos := "l05_code.go:155", after := #[{ on := 2, ground := Ground.data }, { on := 3, ground := Ground.chain }, { on := 0, ground := Ground.phase }, { on := 1, ground := Ground.phase }, { on := 2, ground := Ground.phase }, { on := 3, ground := Ground.phase }], guard := none } : Oper)) (v := ?_) rfl (by kernel_rfl) (by kernel_rfl) (by kernel_rfl) (fun _ _ _ h => h) (Or.inl ⟨by rfl, ?_⟩) (by assumption) ?_
              rotate_left
              · intro w hSw
                (try dsimp only at hSw)
                go_simp
                (try with_reducible rfl)
              (try simp only [Act.put, List.setIfInBounds_toArray, List.set_cons_zero, List.set_cons_succ])
              refine wpAnyH_done (by kernel_rfl) ?_ _
              go_wp2
              have hC := hfin.out _ rfl
              refine bodyPost_ret (v := .tuple #[insY k ws, .bool (okI (k : Int) (insN k ws (offL k)).1 (insN k ws (offL k)).2.1 (insN k ws (offL k)).2.2 (lenM (kdN k)))]) (by simp [results, Tryd.results50, go_sem, x0]) rfl ⟨hC, B5.out⟩
  · have hq3 : ((n1 : Int) == 2) = false := by simp; omega
    clear hq2 hl2
    go_upto_region 6 with fail
    clear hq3 c0
    go_wp2
    go_loopw [8, 9] (fun q i wr => ∃ j : Nat, j ≤ 23 ∧ i = .int .i64 j ∧ q = .int .i64 (opJ t j) ∧ RSt w wr ws g) (fun _ i _ => 23 - (intOf i).toNat)
    case atStart => exact ⟨0, by omega, rfl, rfl, hR.out⟩
    case round =>
      obtain ⟨j, hj, rfl, rfl, hS⟩ := hrel
      replace hS := hid hS
      by_cases hlt : j < 23
      · have hlti : (j : Int) < 23 := by omega
        have hst : Hid (opJ t (j + 1) = if kdW j = t then (j : Int) else opJ t j) := rfl
        obtain ⟨OJ, hOJ⟩ : ∃ x, opJ t j = x := ⟨_, rfl⟩
        obtain ⟨WJ, hWJ⟩ : ∃ x, kdW j = x := ⟨_, rfl⟩
        rw [hOJ, hWJ] at hst
        rw [hOJ]
        replace hOJ := hid hOJ
        replace hWJ := hid hWJ
        go_wp2_with fail
        refine (words_spec _).mono ?_
        rintro e wa ⟨⟨g1, rfl, _⟩, hb⟩
        have hS1 := hid (hS.out.below hb)
        clear hb hS
        go_upto_region 10 with fail
        have c0 := hS1.out.vc 0 (by omega)
        rw [ht.out] at c0
        have hSd := hid hS1.out.drew
        refine wp_region_held_drew (S := (fun w' => w'.cell? ⟨g, 0, none⟩ = some (.string t) ∧ Hid (RSt w w' ws g))) (by kernel_rfl) ⟨c0, hSd⟩ (fun hHeld => ?_)
        refine wpAnyH_take (i := 1) (oi := ({ dst := some 52, op := Op.move (Operand.tmp 9), type := 3, pos := "l05_code.go:133", after := #[], guard := none } : Oper)) (v := ?_) rfl (by kernel_rfl) (by kernel_rfl) (by kernel_rfl) (fun _ _ _ h => h) (Or.inl ⟨by rfl, ?_⟩) (by assumption) ?_
        rotate_left
        · intro w hSw
          (try dsimp only at hSw)
          go_simp
          (try with_reducible rfl)
        (try simp only [Act.put, List.setIfInBounds_toArray, List.set_cons_zero, List.set_cons_succ])
        refine wpAnyH_take (i := 4) (oi := ({ dst := some 55, op := Op.move (Operand.tmp 4), type := 37, pos := "l05_code.go:133", after := #[], guard := none } : Oper)) (v := ?_) rfl (by kernel_rfl) (by kernel_rfl) (by kernel_rfl) (fun _ _ _ h => h) (Or.inl ⟨by rfl, ?_⟩) (by assumption) ?_
        rotate_left
        · intro w hSw
          (try dsimp only at hSw)
          go_simp
          (try with_reducible rfl)
        (try simp only [Act.put, List.setIfInBounds_toArray, List.set_cons_zero, List.set_cons_succ])
        refine wpAnyH_take (i := 5) (oi := ({ dst := some 56, op := Op.indexAddr 37 (Operand.tmp 55) (Operand.const (Value.int IntKind.i64 0)), type := 0, pos := "l05_code.go:133", after := #[{ on := 4, ground := Ground.data }], guard := none } : Oper)) (v := ?_) rfl (by kernel_rfl) (by kernel_rfl) (by kernel_rfl) (fun _ _ _ h => h) (Or.inl ⟨by rfl, ?_⟩) (by assumption) ?_
        rotate_left
        · intro w hSw
          (try dsimp only at hSw)
          go_simp
          (try with_reducible rfl)
        (try simp only [Act.put, List.setIfInBounds_toArray, List.set_cons_zero, List.set_cons_succ])
        refine wpAnyH_take (i := 6) (oi := ({ dst := some 57, op := Op.load 9 (Operand.tmp 56), type := 9, pos := "l05_code.go:133", after := #[{ on := 5, ground := Ground.data }], guard := none } : Oper)) (v := ?_) rfl (by kernel_rfl) (by kernel_rfl) (by kernel_rfl) (fun _ _ _ h => h) (Or.inl ⟨by rfl, ?_⟩) (by assumption) ?_
        rotate_left
        · intro w hSw
          (try dsimp only at hSw)
          go_simp
          (try with_reducible rfl)
        (try simp only [Act.put, List.setIfInBounds_toArray, List.set_cons_zero, List.set_cons_succ])
        refine wpAnyH_ready (rs := [0]) (by kernel_rfl) (by simp) ?_
        refine AllReadyH.cons (o := ({ dst := some 51, op := Op.call { callee := Callee.value (Operand.func 65), args := #[], argTypes := #[] }, type := 37, pos := "l05_code.go:133", after := #[], guard := none } : Oper)) rfl (fun K hK => ?_) AllReadyH.nil
        go_simp
        go_at_call 65
        refine (words_spec _).mono ?_
        rintro e wb ⟨⟨g2, rfl, hw⟩, hb⟩
        have xw := hw j hlt
        rw [hWJ.out] at xw
        have hS2 := hid (hSd.out.below hb)
        have c2 := hS2.out.vc 0 (by omega)
        rw [ht.out] at c2
        clear hb hw
        go_wp2_with fail
        refine hK.out _ _ ⟨c2, hS2⟩ (fun hHeld => ?_)
        clear hK K
        (try simp only [Act.put, List.setIfInBounds_toArray, List.set_cons_zero, List.set_cons_succ])
        refine wpAnyH_take (i := 2) (oi := ({ dst := some 53, op := Op.indexAddr 37 (Operand.tmp 51) (Operand.tmp 52), type := 0, pos := "l05_code.go:133", after := #[{ on := 0, ground := Ground.data }, { on := 1, ground := Ground.data }], guard := none } : Oper)) (v := ?_) rfl (by kernel_rfl) (by kernel_rfl) (by kernel_rfl) (fun _ _ _ h => h) (Or.inl ⟨by rfl, ?_⟩) (by assumption) ?_
        rotate_left
        · intro w hSw
          (try dsimp only at hSw)
          go_simp
          (try with_reducible rfl)
        (try simp only [Act.put, List.setIfInBounds_toArray, List.set_cons_zero, List.set_cons_succ])
        refine wpAnyH_ready (rs := [3]) (by kernel_rfl) (by simp) ?_
        refine AllReadyH.cons (o := ({ dst := some 54, op := Op.load 9 (Operand.tmp 53), type := 9, pos := "l05_code.go:133", after := #[{ on := 2, ground := Ground.data }], guard := none } : Oper)) rfl (fun K hK => ?_) AllReadyH.nil
        go_simp
        go_wp2_with fail
        refine hK.out _ _ ⟨c2, hS2⟩ (fun hHeld => ?_)
        clear hK K
        (try simp only [Act.put, List.setIfInBounds_toArray, List.set_cons_zero, List.set_cons_succ])
        refine wpAnyH_take (i := 7) (oi := ({ dst := some 58, op := Op.binOp BinOp.eql 9 (Operand.tmp 54) (Operand.tmp 57) 9, type := 4, pos := "l05_code.go:133", after := #[{ on := 3, ground := Ground.data }, { on := 6, ground := Ground.data }], guard := none } : Oper)) (v := ?_) rfl (by kernel_rfl) (by kernel_rfl) (by kernel_rfl) (fun _ _ _ h => h) (Or.inl ⟨by rfl, ?_⟩) (by assumption) ?_
        rotate_left
        · intro w hSw
          (try dsimp only at hSw)
          go_simp
          (try with_reducible rfl)
        (try simp only [Act.put, List.setIfInBounds_toArray, List.set_cons_zero, List.set_cons_succ])
        refine wpAnyH_done (by kernel_rfl) ?_ _
        clear c0 c2 xw hS1 hSd
        cases hq : (WJ.toList == t.toList)
        · have hq' : WJ ≠ t := bl_ne hq
          have hO2 := hid (hst.out.trans (if_neg hq'))
          clear hst hq'
          go_wp2
          go_roundw
          case rel => exact ⟨j + 1, by omega, by go_num, by rw [hO2.out], hS2.out⟩
          case measure => simp [intOf]; omega
        · have hq' : WJ = t := (bl_eq _ _).1 hq
          have hO2 := hid (hst.out.trans (if_pos hq'))
          clear hst hq'
          go_wp2
          go_roundw
          case rel => exact ⟨j + 1, by omega, by go_num, by rw [hO2.out], hS2.out⟩
          case measure => simp [intOf]; omega
      · obtain rfl : j = 23 := by omega
        go_wp2_with fail
        refine (words_spec _).mono ?_
        rintro e wa ⟨⟨g1, rfl, _⟩, hb⟩
        have hS1 := hid (hS.out.below hb)
        clear hb hS hR
        by_cases hop : ∃ k, k < 23 ∧ kdW k = t
        rotate_left
        · have hO : opJ t 23 = -1 := opJ_none 23 (fun i hi e => hop ⟨i, hi, e⟩)
          have hNo := hid (RdP.none (main_no (ws := ws) (fun k hk e => hop ⟨k, hk, e.trans ht.out⟩) hdb.out))
          rw [hO]
          clear hop
          have x0 := hS1.out.q.cell
          have f0 := hS1.out.q.frozen
          have z0 := hS1.out.q.lt
          have b0 := hid hS1.out.bel
          go_wp2
          refine bodyPost_ret (v := .tuple #[insV 0 0 0 0 0, .bool false]) (by simp [results, Tryd.results50, go_sem, x0]) rfl ⟨hNo.out _ _ _ _ _, ?_⟩
          iterate 5 refine Below.setCell ?_ (by first | omega | (simp; done) | (simp; omega)) _
          exact b0.out
        obtain ⟨k, hk, hkt⟩ := hop
        have hO : opJ t 23 = (k : Int) := opJ_some (by omega) hkt 23 hk (by omega)
        have hkw := hid (hkt.trans ht.out.symm)
        rw [hO]
        clear hO hkt
        have hf := form_offs k hk
        have hfs := hf.1
        have hk0 : ¬ (k : Int) < 0 := by omega
        go_wp2_with fail
        refine (form_spec k _ hk).mono ?_
        rintro e wb ⟨rfl, hb⟩
        have hS2 := hid (hS1.out.below hb)
        clear hb hS1
        obtain ⟨F1, hF1⟩ : ∃ x, formT k = x := ⟨_, rfl⟩
        rw [hF1] at hfs
        rw [hF1]
        replace hf := hid hf
        have hol := offL_le (k := k) (by omega)
        by_cases hl : ws.length = 1 + offL k
        rotate_left
        · have hNo := hid (RdP.none (main_len hk hkw.out hl))
          have hne : ((n1 : Int) != 1 + (F1.size : Int)) = true := by rw [bne_iff_ne]; intro h; apply hl; rw [hn1.out]; omega
          have hb1 : F1.size ≤ 2 := by omega
          clear hl hf hfs
          have x0 := hS2.out.q.cell
          have f0 := hS2.out.q.frozen
          have z0 := hS2.out.q.lt
          have b0 := hid hS2.out.bel
          go_wp2
          refine bodyPost_ret (v := .tuple #[insV 0 0 0 0 0, .bool false]) (by simp [results, Tryd.results50, go_sem, x0]) rfl ⟨hNo.out _ _ _ _ _, ?_⟩
          iterate 5 refine Below.setCell ?_ (by first | omega | (simp; done) | (simp; omega)) _
          exact b0.out
        have hne : ((n1 : Int) != 1 + (F1.size : Int)) = false := by rw [bne_eq_false_iff_eq, ← hn1.out]; omega
        have hb1 : F1.size ≤ 2 := by omega
        have hlb := hid (len_bit k hk)
        obtain ⟨pB, hpB⟩ : ∃ x, hasC k 66 = x := ⟨_, rfl⟩
        obtain ⟨pN, hpN⟩ : ∃ x, hasC k 78 = x := ⟨_, rfl⟩
        rw [hpB, hpN] at hlb
        obtain ⟨iL, hiL⟩ : ∃ x, bitI (pB || pN) = x := ⟨_, rfl⟩
        have hbL := bitI_bd (pB || pN)
        rw [hiL] at hlb hbL
        replace hpB := hid hpB
        replace hpN := hid hpN
        replace hiL := hid hiL
        replace hF1 := hid hF1
        replace hfs := hid hfs
        go_wp2_with fail
        refine (has_spec k 66 _ hk).mono ?_
        rintro e wc ⟨rfl, hb⟩
        rw [hpB.out]
        have hS3 := hid (hS2.out.below hb)
        clear hb hS2
        cases pB
        · skip
          go_wp2_with fail
          refine (has_spec k 78 _ hk).mono ?_
          rintro e wd ⟨rfl, hb⟩
          rw [hpN.out]
          have hS4 := hid (hS3.out.below hb)
          clear hb hS3
          have hiL' : Hid (bitI pN = iL) := hiL.out
          go_wp2_with (go_at_call 49; refine (bitI_spec _ _).mono ?_; rintro e w' ⟨rfl, hww⟩; obtain rfl := hww.symm; rw [hiL'.out])
          have hfar := hid hS4.out.q.lt
          have hgX : g ≠ wd.heap.size := by have := World.block_lt_of_cell? _ _ (hS4.out.vc 0 h0); dsimp only at this; omega
          have X0 : Hid (XSt w (wd.alloc (.cells #[.int .i64 (k : Int), .int .i64 0, .int .i64 0, .int .i64 0, .int .i64 (1 + iL)] 24)) ws g k wd.heap.size 0) := ⟨hS4.out.alloc _, by have := Blk.new wd #[.int .i64 (k : Int), .int .i64 0, .int .i64 0, .int .i64 0, .int .i64 (1 + iL)] 24; rw [hlb.out] at this ⊢; exact this, hfar.out, fun i h1 h2 => by omega⟩
          clear hS4
          go_wp2
          go_loopw [11] (fun i wr => ∃ j : Nat, j ≤ offL k ∧ i = .int .i64 ((1 + j : Nat) : Int) ∧ XSt w wr ws g k wd.heap.size j) (fun i _ => 1 + offL k - (intOf i).toNat)
          case atStart => exact ⟨0, by omega, rfl, X0.out⟩
          case round =>
            obtain ⟨j, hj, rfl, hX⟩ := hrel
            clear X0
            obtain ⟨I, hI⟩ : ∃ I, 1 + j = I := ⟨_, rfl⟩
            rw [hI]
            by_cases hlt : j < offL k
            · have hIlt : (I : Int) < (n1 : Int) := by rw [← hn1.out]; omega
              have c1 := hX.r.vc (j + 1) (by omega)
              rw [show j + 1 = I by omega] at c1
              have hix := run_idx F1 ((I : Int) - 1) j (by omega) (by rw [hfs.out]; exact hlt)
              have hzj := hf.out.2 j hlt
              rw [hF1.out] at hzj
              have hnx : Hid (∀ W o m, XSt w W ws g k wd.heap.size j → (offsK (kdN k)).getD j 0 = o → m = numW ws (j + 1) → isNum (wsAt ws (j + 1)) → XSt w (W.setCell ⟨wd.heap.size, o, none⟩ (.int .i64 m)) ws g k wd.heap.size (j + 1)) := fun W o m h1 h2 h3 h4 => h1.next (by omega) hlt hgX h2 h3 h4
              have hnu : numW ws (j + 1) = valS (wsAt ws I) (wsAt ws I).size := by rw [← hI, Nat.add_comm 1 j]; rfl
              have hn2 : Hid (¬ isNum (wsAt ws I) → ∀ o a b n l, RdP ws (.returned (.tuple #[insV o a b n l, .bool false]))) := fun h => RdP.none (main_num hk hkw.out (i := I) (by omega) (by omega) h)
              have hI2 : j + 1 = I := by omega
              have hIb : 1 ≤ (I : Int) ∧ (I : Int) ≤ 3 := by omega
              rw [hI2] at hnx hnu
              have hszI := hsz.out I
              have hoj := offs_at (k := k) (j := j) (by omega) hlt
              replace hX := hid hX
              generalize wsAt ws I = tj at *
              go_wp2_with fail
              refine (num_spec tj _ hszI).mono ?_
              rintro e v1 ⟨⟨m, rfl, hm⟩, hb⟩
              have hX1 := hid (hX.out.below hb)
              clear hb hX c1
              by_cases hn : isNum tj
              rotate_left
              · rw [decide_eq_false hn]
                have hNo := hid (hn2.out hn)
                have hR1 := hid hX1.out.r
                clear hm hn2 hnx hix
                have x0 := hR1.out.q.cell
                have f0 := hR1.out.q.frozen
                have z0 := hR1.out.q.lt
                have b0 := hid hR1.out.bel
                go_wp2
                refine bodyPost_ret (v := .tuple #[insV 0 0 0 0 0, .bool false]) (by simp [results, Tryd.results50, go_sem, x0]) rfl ⟨hNo.out _ _ _ _ _, ?_⟩
                iterate 5 refine Below.setCell ?_ (by first | omega | (simp; done) | (simp; omega)) _
                exact b0.out
              rw [decide_eq_true hn]
              have em := hid ((hm hn).trans hnu.symm)
              clear hm hnu hn2
              go_wp2_with fail
              refine (form_spec k _ hk).mono ?_
              rintro e v2 ⟨rfl, hb⟩
              rw [hF1.out]
              have hX2 := hid (hX1.out.below hb)
              clear hb hX1
              have hx2 := hX2.out.x.cell
              have hfr := hX2.out.x.frozen
              have hxl := hX2.out.x.lt
              obtain ⟨o, ho⟩ : ∃ o, (offsK (kdN k)).getD j 0 = o := ⟨_, rfl⟩
              rw [ho] at hzj hoj
              have hX3 := hid (hnx.out v2 o m hX2.out ho em.out hn)
              clear hnx em hf
              rcases hoj with rfl | rfl | rfl
              all_goals
                simp only [if_true, if_false, Nat.reduceEqDiff, reduceIte] at hzj
                rw [hzj] at hix
                replace hI := hid hI
                replace hI2 := hid hI2
                go_wp2
                go_roundw
                case rel => exact ⟨j + 1, by omega, congrArg (Value.int .i64) (by have := hI.out; omega), by rw [hI2.out]; exact hX3.out⟩
                case measure => have := hI.out; simp [intOf]; omega
            · obtain rfl : j = offL k := by omega
              have hge : ¬ (I : Int) < (n1 : Int) := by rw [← hn1.out]; omega
              have hfin : Hid (∀ r, okI (k : Int) (insN k ws (offL k)).1 (insN k ws (offL k)).2.1 (insN k ws (offL k)).2.2 (lenM (kdN k)) = r → RdP ws (.returned (.tuple #[insY k ws, .bool r]))) := fun r hr => main_ok hX hk hkw.out hl hr
              have R3 := hid hX.r
              have Q3 := hid hX.x
              have hfa := hX.far
              clear hX
              go_upto_region 27 with fail
              have d0 : wr.cell? ⟨wd.heap.size, 0, none⟩ = some (.int .i64 (k : Int)) := Q3.out.cell 0
              have d1 : wr.cell? ⟨wd.heap.size, 1, none⟩ = some (.int .i64 (insN k ws (offL k)).1) := Q3.out.cell 1
              have d2 : wr.cell? ⟨wd.heap.size, 2, none⟩ = some (.int .i64 (insN k ws (offL k)).2.1) := Q3.out.cell 2
              have d3 : wr.cell? ⟨wd.heap.size, 3, none⟩ = some (.int .i64 (insN k ws (offL k)).2.2) := Q3.out.cell 3
              have d4 : wr.cell? ⟨wd.heap.size, 4, none⟩ = some (.int .i64 (lenM (kdN k))) := Q3.out.cell 4
              have B3 := hid R3.out.bel.drew
              refine wp_region_held_drew (S := (fun w' => w'.cell? ⟨wd.heap.size, 0, none⟩ = some (.int .i64 (k : Int)) ∧ w'.cell? ⟨wd.heap.size, 1, none⟩ = some (.int .i64 (insN k ws (offL k)).1) ∧ w'.cell? ⟨wd.heap.size, 2, none⟩ = some (.int .i64 (insN k ws (offL k)).2.1) ∧ w'.cell? ⟨wd.heap.size, 3, none⟩ = some (.int .i64 (insN k ws (offL k)).2.2) ∧ w'.cell? ⟨wd.heap.size, 4, none⟩ = some (.int .i64 (lenM (kdN k))) ∧ Hid (Below w.heap.size w w'))) (by kernel_rfl) ⟨d0, d1, d2, d3, d4, B3⟩ (fun hHeld => ?_)
              refine wpAnyH_take (i := 0) (oi := ({ dst := some 114, op := Op.load 24 (Operand.tmp 10), type := 24, pos := "l05_code.go:155", after := #[], guard := none } : Oper)) (v := ?_) rfl (by kernel_rfl) (by kernel_rfl) (by kernel_rfl) (fun _ _ _ h => h) (Or.inl ⟨by rfl, ?_⟩) (by assumption) ?_
              rotate_left
              · intro w hSw
                (try dsimp only at hSw)
                go_simp
                (try with_reducible rfl)
              (try simp only [Act.put, List.setIfInBounds_toArray, List.set_cons_zero, List.set_cons_succ])
              refine wpAnyH_take (i := 1) (oi := ({ dst := some 115, op := Op.load 24 (Operand.tmp 10), type := 24, pos := "l05_code.go:155", after := #[], guard := none } : Oper)) (v := ?_) rfl (by kernel_rfl) (by kernel_rfl) (by kernel_rfl) (fun _ _ _ h => h) (Or.inl ⟨by rfl, ?_⟩) (by assumption) ?_
              rotate_left
              · intro w hSw
                (try dsimp only at hSw)
                go_simp
                (try with_reducible rfl)
              (try simp only [Act.put, List.setIfInBounds_toArray, List.set_cons_zero, List.set_cons_succ])
              refine wpAnyH_ready (rs := [2]) (by kernel_rfl) (by simp) ?_
              refine AllReadyH.cons (o := ({ dst := some 116, op := Op.call { callee := Callee.value (Operand.func 28), args := #[Operand.tmp 115], argTypes := #[24] }, type := 4, pos := "l05_code.go:155", after := #[{ on := 1, ground := Ground.data }], guard := none } : Oper)) rfl (fun K hK => ?_) AllReadyH.nil
              go_simp
              go_at_call 28
              refine (insok_spec _ _ _ _ _ _).mono ?_
              rintro e w4 ⟨rfl, hb⟩
              have Q4 := hid ((blk_drew Q3.out).below hb Q3.out.lt)
              have R4 := hid (R3.out.drew.below hb)
              have B4 := hid R4.out.bel
              have f0 : w4.cell? ⟨wd.heap.size, 0, none⟩ = some (.int .i64 (k : Int)) := Q4.out.cell 0
              have f1 : w4.cell? ⟨wd.heap.size, 1, none⟩ = some (.int .i64 (insN k ws (offL k)).1) := Q4.out.cell 1
              have f2 : w4.cell? ⟨wd.heap.size, 2, none⟩ = some (.int .i64 (insN k ws (offL k)).2.1) := Q4.out.cell 2
              have f3 : w4.cell? ⟨wd.heap.size, 3, none⟩ = some (.int .i64 (insN k ws (offL k)).2.2) := Q4.out.cell 3
              have f4 : w4.cell? ⟨wd.heap.size, 4, none⟩ = some (.int .i64 (lenM (kdN k))) := Q4.out.cell 4
              clear hb
              go_wp2_with fail
              refine hK.out _ _ ⟨f0, f1, f2, f3, f4, B4⟩ (fun hHeld => ?_)
              clear hK K
              (try simp only [Act.put, List.setIfInBounds_toArray, List.set_cons_zero, List.set_cons_succ])
              clear f0 f1 f2 f3 f4
              refine wpAnyH_ready (rs := [3]) (by kernel_rfl) (by simp) ?_
              refine AllReadyH.cons (o := ({ dst := none, op := Op.store 24 (Operand.tmp 2) (Operand.tmp 114), type := 0, pos := "l05_code.go:155", after := #[{ on := 0, ground := Ground.data }, { on := 2, ground := Ground.chain }, { on := 0, ground := Ground.phase }, { on := 1, ground := Ground.textOnly Departure.lateStores }, { on := 2, ground := Ground.textOnly Departure.lateStoresUnsure }], guard := none } : Oper)) rfl (fun K hK => ?_) AllReadyH.nil
              have x0 := R4.out.q.cell
              have f0 := R4.out.q.frozen
              have z0 := R4.out.q.lt
              have Q5 := (((((Q4.out.other (p := ⟨w.heap.size, 0, none⟩) (by dsimp only; omega) (.int .i64 (k : Int))).other (p := ⟨w.heap.size, 1, none⟩) (by dsimp only; omega) (.int .i64 (insN k ws (offL k)).1)).other (p := ⟨w.heap.size, 2, none⟩) (by dsimp only; omega) (.int .i64 (insN k ws (offL k)).2.1)).other (p := ⟨w.heap.size, 3, none⟩) (by dsimp only; omega) (.int .i64 (insN k ws (offL k)).2.2)).other (p := ⟨w.heap.size, 4, none⟩) (by dsimp only; omega) (.int .i64 (lenM (kdN k))))
              have B5 : Hid (Below w.heap.size w (((((w4.setCell ⟨w.heap.size, 0, none⟩ (.int .i64 (k : Int))).setCell ⟨w.heap.size, 1, none⟩ (.int .i64 (insN k ws (offL k)).1)).setCell ⟨w.heap.size, 2, none⟩ (.int .i64 (insN k ws (offL k)).2.1)).setCell ⟨w.heap.size, 3, none⟩ (.int .i64 (insN k ws (offL k)).2.2)).setCell ⟨w.heap.size, 4, none⟩ (.int .i64 (lenM (kdN k))))) := hid (((((B4.out.setCell (p := ⟨w.heap.size, 0, none⟩) (by dsimp only; omega) (.int .i64 (k : Int))).setCell (p := ⟨w.heap.size, 1, none⟩) (by dsimp only; omega) (.int .i64 (insN k ws (offL k)).1)).setCell (p := ⟨w.heap.size, 2, none⟩) (by dsimp only; omega) (.int .i64 (insN k ws (offL k)).2.1)).setCell (p := ⟨w.heap.size, 3, none⟩) (by dsimp only; omega) (.int .i64 (insN k ws (offL k)).2.2)).setCell (p := ⟨w.heap.size, 4, none⟩) (by dsimp only; omega) (.int .i64 (lenM (kdN k))))
              have e0 : (((((w4.setCell ⟨w.heap.size, 0, none⟩ (.int .i64 (k : Int))).setCell ⟨w.heap.size, 1, none⟩ (.int .i64 (insN k ws (offL k)).1)).setCell ⟨w.heap.size, 2, none⟩ (.int .i64 (insN k ws (offL k)).2.1)).setCell ⟨w.heap.size, 3, none⟩ (.int .i64 (insN k ws (offL k)).2.2)).setCell ⟨w.heap.size, 4, none⟩ (.int .i64 (lenM (kdN k)))).cell? ⟨wd.heap.size, 0, none⟩ = some (.int .i64 (k : Int)) := Q5.cell 0
              have e1 : (((((w4.setCell ⟨w.heap.size, 0, none⟩ (.int .i64 (k : Int))).setCell ⟨w.heap.size, 1, none⟩ (.int .i64 (insN k ws (offL k)).1)).setCell ⟨w.heap.size, 2, none⟩ (.int .i64 (insN k ws (offL k)).2.1)).setCell ⟨w.heap.size, 3, none⟩ (.int .i64 (insN k ws (offL k)).2.2)).setCell ⟨w.heap.size, 4, none⟩ (.int .i64 (lenM (kdN k)))).cell? ⟨wd.heap.size, 1, none⟩ = some (.int .i64 (insN k ws (offL k)).1) := Q5.cell 1
              have e2 : (((((w4.setCell ⟨w.heap.size, 0, none⟩ (.int .i64 (k : Int))).setCell ⟨w.heap.size, 1, none⟩ (.int .i64 (insN k ws (offL k)).1)).setCell ⟨w.heap.size, 2, none⟩ (.int .i64 (insN k ws (offL k)).2.1)).setCell ⟨w.heap.size, 3, none⟩ (.int .i64 (insN k ws (offL k)).2.2)).setCell ⟨w.heap.size, 4, none⟩ (.int .i64 (lenM (kdN k)))).cell? ⟨wd.heap.size, 2, none⟩ = some (.int .i64 (insN k ws (offL k)).2.1) := Q5.cell 2
              have e3 : (((((w4.setCell ⟨w.heap.size, 0, none⟩ (.int .i64 (k : Int))).setCell ⟨w.heap.size, 1, none⟩ (.int .i64 (insN k ws (offL k)).1)).setCell ⟨w.heap.size, 2, none⟩ (.int .i64 (insN k ws (offL k)).2.1)).setCell ⟨w.heap.size, 3, none⟩ (.int .i64 (insN k ws (offL k)).2.2)).setCell ⟨w.heap.size, 4, none⟩ (.int .i64 (lenM (kdN k)))).cell? ⟨wd.heap.size, 3, none⟩ = some (.int .i64 (insN k ws (offL k)).2.2) := Q5.cell 3
              have e4 : (((((w4.setCell ⟨w.heap.size, 0, none⟩ (.int .i64 (k : Int))).setCell ⟨w.heap.size, 1, none⟩ (.int .i64 (insN k ws (offL k)).1)).setCell ⟨w.heap.size, 2, none⟩ (.int .i64 (insN k ws (offL k)).2.1)).setCell ⟨w.heap.size, 3, none⟩ (.int .i64 (insN k ws (offL k)).2.2)).setCell ⟨w.heap.size, 4, none⟩ (.int .i64 (lenM (kdN k)))).cell? ⟨wd.heap.size, 4, none⟩ = some (.int .i64 (lenM (kdN k))) := Q5.cell 4
              clear Q5
              go_simp
              refine hK.out _ _ ⟨e0, e1, e2, e3, e4, B5⟩ (fun hHeld => ?_)
              clear hK K
              (try simp only [Act.put, List.setIfInBounds_toArray, List.set_cons_zero, List.set_cons_succ])
              refine wpAnyH_take (i := 4) (oi := ({ dst := some 3, op := Op.assign (Operand.tmp 116), type := 4, pos := "l05_code.go:155", after := #[{ on := 2, ground := Ground.data }, { on := 3, ground := Ground.chain }, { on := 0, ground := Ground.phase }, { on := 1, ground := Ground.phase }, { on := 2, ground := Ground.phase }, { on := 3, ground := Ground.phase }], guard := none } : Oper)) (v := ?_) rfl (by kernel_rfl) (by kernel_rfl) (by kernel_rfl) (fun _ _ _ h => h) (Or.inl ⟨by rfl, ?_⟩) (by assumption) ?_
              rotate_left
              · intro w hSw
                (try dsimp only at hSw)
                go_simp
                (try with_reducible rfl)
              (try simp only [Act.put, List.setIfInBounds_toArray, List.set_cons_zero, List.set_cons_succ])
              refine wpAnyH_done (by kernel_rfl) ?_ _
              go_wp2
              have hC := hfin.out _ rfl
              refine bodyPost_ret (v := .tuple #[insY k ws, .bool (okI (k : Int) (insN k ws (offL k)).1 (insN k ws (offL k)).2.1 (insN k ws (offL k)).2.2 (lenM (kdN k)))]) (by simp [results, Tryd.results50, go_sem, x0]) rfl ⟨hC, B5.out⟩
        · skip
          have hiL' : Hid (bitI true = iL) := hiL.out
          go_wp2_with (go_at_call 49; refine (bitI_spec _ _).mono ?_; rintro e w' ⟨rfl, hww⟩; obtain rfl := hww.symm; rw [hiL'.out])
          have hfar := hid hS3.out.q.lt
          have hgX : g ≠ wc.heap.size := by have := World.block_lt_of_cell? _ _ (hS3.out.vc 0 h0); dsimp only at this; omega
          have X0 : Hid (XSt w (wc.alloc (.cells #[.int .i64 (k : Int), .int .i64 0, .int .i64 0, .int .i64 0, .int .i64 (1 + iL)] 24)) ws g k wc.heap.size 0) := ⟨hS3.out.alloc _, by have := Blk.new wc #[.int .i64 (k : Int), .int .i64 0, .int .i64 0, .int .i64 0, .int .i64 (1 + iL)] 24; rw [hlb.out] at this ⊢; exact this, hfar.out, fun i h1 h2 => by omega⟩
          clear hS3
          go_wp2
          go_loopw [11] (fun i wr => ∃ j : Nat, j ≤ offL k ∧ i = .int .i64 ((1 + j : Nat) : Int) ∧ XSt w wr ws g k wc.heap.size j) (fun i _ => 1 + offL k - (intOf i).toNat)
          case atStart => exact ⟨0, by omega, rfl, X0.out⟩
          case round =>
            obtain ⟨j, hj, rfl, hX⟩ := hrel
            clear X0
            obtain ⟨I, hI⟩ : ∃ I, 1 + j = I := ⟨_, rfl⟩
            rw [hI]
            by_cases hlt : j < offL k
            · have hIlt : (I : Int) < (n1 : Int) := by rw [← hn1.out]; omega
              have c1 := hX.r.vc (j + 1) (by omega)
              rw [show j + 1 = I by omega] at c1
              have hix := run_idx F1 ((I : Int) - 1) j (by omega) (by rw [hfs.out]; exact hlt)
              have hzj := hf.out.2 j hlt
              rw [hF1.out] at hzj
              have hnx : Hid (∀ W o m, XSt w W ws g k wc.heap.size j → (offsK (kdN k)).getD j 0 = o → m = numW ws (j + 1) → isNum (wsAt ws (j + 1)) → XSt w (W.setCell ⟨wc.heap.size, o, none⟩ (.int .i64 m)) ws g k wc.heap.size (j + 1)) := fun W o m h1 h2 h3 h4 => h1.next (by omega) hlt hgX h2 h3 h4
              have hnu : numW ws (j + 1) = valS (wsAt ws I) (wsAt ws I).size := by rw [← hI, Nat.add_comm 1 j]; rfl
              have hn2 : Hid (¬ isNum (wsAt ws I) → ∀ o a b n l, RdP ws (.returned (.tuple #[insV o a b n l, .bool false]))) := fun h => RdP.none (main_num hk hkw.out (i := I) (by omega) (by omega) h)
              have hI2 : j + 1 = I := by omega
              have hIb : 1 ≤ (I : Int) ∧ (I : Int) ≤ 3 := by omega
              rw [hI2] at hnx hnu
              have hszI := hsz.out I
              have hoj := offs_at (k := k) (j := j) (by omega) hlt
              replace hX := hid hX
              generalize wsAt ws I = tj at *
              go_wp2_with fail
              refine (num_spec tj _ hszI).mono ?_
              rintro e v1 ⟨⟨m, rfl, hm⟩, hb⟩
              have hX1 := hid (hX.out.below hb)
              clear hb hX c1
              by_cases hn : isNum tj
              rotate_left
              · rw [decide_eq_false hn]
                have hNo := hid (hn2.out hn)
                have hR1 := hid hX1.out.r
                clear hm hn2 hnx hix
                have x0 := hR1.out.q.cell
                have f0 := hR1.out.q.frozen
                have z0 := hR1.out.q.lt
                have b0 := hid hR1.out.bel
                go_wp2
                refine bodyPost_ret (v := .tuple #[insV 0 0 0 0 0, .bool false]) (by simp [results, Tryd.results50, go_sem, x0]) rfl ⟨hNo.out _ _ _ _ _, ?_⟩
                iterate 5 refine Below.setCell ?_ (by first | omega | (simp; done) | (simp; omega)) _
                exact b0.out
              rw [decide_eq_true hn]
              have em := hid ((hm hn).trans hnu.symm)
              clear hm hnu hn2
              go_wp2_with fail
              refine (form_spec k _ hk).mono ?_
              rintro e v2 ⟨rfl, hb⟩
              rw [hF1.out]
              have hX2 := hid (hX1.out.below hb)
              clear hb hX1
              have hx2 := hX2.out.x.cell
              have hfr := hX2.out.x.frozen
              have hxl := hX2.out.x.lt
              obtain ⟨o, ho⟩ : ∃ o, (offsK (kdN k)).getD j 0 = o := ⟨_, rfl⟩
              rw [ho] at hzj hoj
              have hX3 := hid (hnx.out v2 o m hX2.out ho em.out hn)
              clear hnx em hf
              rcases hoj with rfl | rfl | rfl
              all_goals
                simp only [if_true, if_false, Nat.reduceEqDiff, reduceIte] at hzj
                rw [hzj] at hix
                replace hI := hid hI
                replace hI2 := hid hI2
                go_wp2
                go_roundw
                case rel => exact ⟨j + 1, by omega, congrArg (Value.int .i64) (by have := hI.out; omega), by rw [hI2.out]; exact hX3.out⟩
                case measure => have := hI.out; simp [intOf]; omega
            · obtain rfl : j = offL k := by omega
              have hge : ¬ (I : Int) < (n1 : Int) := by rw [← hn1.out]; omega
              have hfin : Hid (∀ r, okI (k : Int) (insN k ws (offL k)).1 (insN k ws (offL k)).2.1 (insN k ws (offL k)).2.2 (lenM (kdN k)) = r → RdP ws (.returned (.tuple #[insY k ws, .bool r]))) := fun r hr => main_ok hX hk hkw.out hl hr
              have R3 := hid hX.r
              have Q3 := hid hX.x
              have hfa := hX.far
              clear hX
              go_upto_region 27 with fail
              have d0 : wr.cell? ⟨wc.heap.size, 0, none⟩ = some (.int .i64 (k : Int)) := Q3.out.cell 0
              have d1 : wr.cell? ⟨wc.heap.size, 1, none⟩ = some (.int .i64 (insN k ws (offL k)).1) := Q3.out.cell 1
              have d2 : wr.cell? ⟨wc.heap.size, 2, none⟩ = some (.int .i64 (insN k ws (offL k)).2.1) := Q3.out.cell 2
              have d3 : wr.cell? ⟨wc.heap.size, 3, none⟩ = some (.int .i64 (insN k ws (offL k)).2.2) := Q3.out.cell 3
              have d4 : wr.cell? ⟨wc.heap.size, 4, none⟩ = some (.int .i64 (lenM (kdN k))) := Q3.out.cell 4
              have B3 := hid R3.out.bel.drew
              refine wp_region_held_drew (S := (fun w' => w'.cell? ⟨wc.heap.size, 0, none⟩ = some (.int .i64 (k : Int)) ∧ w'.cell? ⟨wc.heap.size, 1, none⟩ = some (.int .i64 (insN k ws (offL k)).1) ∧ w'.cell? ⟨wc.heap.size, 2, none⟩ = some (.int .i64 (insN k ws (offL k)).2.1) ∧ w'.cell? ⟨wc.heap.size, 3, none⟩ = some (.int .i64 (insN k ws (offL k)).2.2) ∧ w'.cell? ⟨wc.heap.size, 4, none⟩ = some (.int .i64 (lenM (kdN k))) ∧ Hid (Below w.heap.size w w'))) (by kernel_rfl) ⟨d0, d1, d2, d3, d4, B3⟩ (fun hHeld => ?_)
              refine wpAnyH_take (i := 0) (oi := ({ dst := some 114, op := Op.load 24 (Operand.tmp 10), type := 24, pos := "l05_code.go:155", after := #[], guard := none } : Oper)) (v := ?_) rfl (by kernel_rfl) (by kernel_rfl) (by kernel_rfl) (fun _ _ _ h => h) (Or.inl ⟨by rfl, ?_⟩) (by assumption) ?_
              rotate_left
              · intro w hSw
                (try dsimp only at hSw)
                go_simp
                (try with_reducible rfl)
              (try simp only [Act.put, List.setIfInBounds_toArray, List.set_cons_zero, List.set_cons_succ])
              refine wpAnyH_take (i := 1) (oi := ({ dst := some 115, op := Op.load 24 (Operand.tmp 10), type := 24, pos := "l05_code.go:155", after := #[], guard := none } : Oper)) (v := ?_) rfl (by kernel_rfl) (by kernel_rfl) (by kernel_rfl) (fun _ _ _ h => h) (Or.inl ⟨by rfl, ?_⟩) (by assumption) ?_
              rotate_left
              · intro w hSw
                (try dsimp only at hSw)
                go_simp
                (try with_reducible rfl)
              (try simp only [Act.put, List.setIfInBounds_toArray, List.set_cons_zero, List.set_cons_succ])
              refine wpAnyH_ready (rs := [2]) (by kernel_rfl) (by simp) ?_
              refine AllReadyH.cons (o := ({ dst := some 116, op := Op.call { callee := Callee.value (Operand.func 28), args := #[Operand.tmp 115], argTypes := #[24] }, type := 4, pos := "l05_code.go:155", after := #[{ on := 1, ground := Ground.data }], guard := none } : Oper)) rfl (fun K hK => ?_) AllReadyH.nil
              go_simp
              go_at_call 28
              refine (insok_spec _ _ _ _ _ _).mono ?_
              rintro e w4 ⟨rfl, hb⟩
              have Q4 := hid ((blk_drew Q3.out).below hb Q3.out.lt)
              have R4 := hid (R3.out.drew.below hb)
              have B4 := hid R4.out.bel
              have f0 : w4.cell? ⟨wc.heap.size, 0, none⟩ = some (.int .i64 (k : Int)) := Q4.out.cell 0
              have f1 : w4.cell? ⟨wc.heap.size, 1, none⟩ = some (.int .i64 (insN k ws (offL k)).1) := Q4.out.cell 1
              have f2 : w4.cell? ⟨wc.heap.size, 2, none⟩ = some (.int .i64 (insN k ws (offL k)).2.1) := Q4.out.cell 2
              have f3 : w4.cell? ⟨wc.heap.size, 3, none⟩ = some (.int .i64 (insN k ws (offL k)).2.2) := Q4.out.cell 3
              have f4 : w4.cell? ⟨wc.heap.size, 4, none⟩ = some (.int .i64 (lenM (kdN k))) := Q4.out.cell 4
              clear hb
              go_wp2_with fail
              refine hK.out _ _ ⟨f0, f1, f2, f3, f4, B4⟩ (fun hHeld => ?_)
              clear hK K
              (try simp only [Act.put, List.setIfInBounds_toArray, List.set_cons_zero, List.set_cons_succ])
              clear f0 f1 f2 f3 f4
              refine wpAnyH_ready (rs := [3]) (by kernel_rfl) (by simp) ?_
              refine AllReadyH.cons (o := ({ dst := none, op := Op.store 24 (Operand.tmp 2) (Operand.tmp 114), type := 0, pos := "l05_code.go:155", after := #[{ on := 0, ground := Ground.data }, { on := 2, ground := Ground.chain }, { on := 0, ground := Ground.phase }, { on := 1, ground := Ground.textOnly Departure.lateStores }, { on := 2, ground := Ground.textOnly Departure.lateStoresUnsure }], guard := none } : Oper)) rfl (fun K hK => ?_) AllReadyH.nil
              have x0 := R4.out.q.cell
              have f0 := R4.out.q.frozen
              have z0 := R4.out.q.lt
              have Q5 := (((((Q4.out.other (p := ⟨w.heap.size, 0, none⟩) (by dsimp only; omega) (.int .i64 (k : Int))).other (p := ⟨w.heap.size, 1, none⟩) (by dsimp only; omega) (.int .i64 (insN k ws (offL k)).1)).other (p := ⟨w.heap.size, 2, none⟩) (by dsimp only; omega) (.int .i64 (insN k ws (offL k)).2.1)).other (p := ⟨w.heap.size, 3, none⟩) (by dsimp only; omega) (.int .i64 (insN k ws (offL k)).2.2)).other (p := ⟨w.heap.size, 4, none⟩) (by dsimp only; omega) (.int .i64 (lenM (kdN k))))
              have B5 : Hid (Below w.heap.size w (((((w4.setCell ⟨w.heap.size, 0, none⟩ (.int .i64 (k : Int))).setCell ⟨w.heap.size, 1, none⟩ (.int .i64 (insN k ws (offL k)).1)).setCell ⟨w.heap.size, 2, none⟩ (.int .i64 (insN k ws (offL k)).2.1)).setCell ⟨w.heap.size, 3, none⟩ (.int .i64 (insN k ws (offL k)).2.2)).setCell ⟨w.heap.size, 4, none⟩ (.int .i64 (lenM (kdN k))))) := hid (((((B4.out.setCell (p := ⟨w.heap.size, 0, none⟩) (by dsimp only; omega) (.int .i64 (k : Int))).setCell (p := ⟨w.heap.size, 1, none⟩) (by dsimp only; omega) (.int .i64 (insN k ws (offL k)).1)).setCell (p := ⟨w.heap.size, 2, none⟩) (by dsimp only; omega) (.int .i64 (insN k ws (offL k)).2.1)).setCell (p := ⟨w.heap.size, 3, none⟩) (by dsimp only; omega) (.int .i64 (insN k ws (offL k)).2.2)).setCell (p := ⟨w.heap.size, 4, none⟩) (by dsimp only; omega) (.int .i64 (lenM (kdN k))))
              have e0 : (((((w4.setCell ⟨w.heap.size, 0, none⟩ (.int .i64 (k : Int))).setCell ⟨w.heap.size, 1, none⟩ (.int .i64 (insN k ws (offL k)).1)).setCell ⟨w.heap.size, 2, none⟩ (.int .i64 (insN k ws (offL k)).2.1)).setCell ⟨w.heap.size, 3, none⟩ (.int .i64 (insN k ws (offL k)).2.2)).setCell ⟨w.heap.size, 4, none⟩ (.int .i64 (lenM (kdN k)))).cell? ⟨wc.heap.size, 0, none⟩ = some (.int .i64 (k : Int)) := Q5.cell 0
              have e1 : (((((w4.setCell ⟨w.heap.size, 0, none⟩ (.int .i64 (k : Int))).setCell ⟨w.heap.size, 1, none⟩ (.int .i64 (insN k ws (offL k)).1)).setCell ⟨w.heap.size, 2, none⟩ (.int .i64 (insN k ws (offL k)).2.1)).setCell ⟨w.heap.size, 3, none⟩ (.int .i64 (insN k ws (offL k)).2.2)).setCell ⟨w.heap.size, 4, none⟩ (.int .i64 (lenM (kdN k)))).cell? ⟨wc.heap.size, 1, none⟩ = some (.int .i64 (insN k ws (offL k)).1) := Q5.cell 1
              have e2 : (((((w4.setCell ⟨w.heap.size, 0, none⟩ (.int .i64 (k : Int))).setCell ⟨w.heap.size, 1, none⟩ (.int .i64 (insN k ws (offL k)).1)).setCell ⟨w.heap.size, 2, none⟩ (.int .i64 (insN k ws (offL k)).2.1)).setCell ⟨w.heap.size, 3, none⟩ (.int .i64 (insN k ws (offL k)).2.2)).setCell ⟨w.heap.size, 4, none⟩ (.int .i64 (lenM (kdN k)))).cell? ⟨wc.heap.size, 2, none⟩ = some (.int .i64 (insN k ws (offL k)).2.1) := Q5.cell 2
              have e3 : (((((w4.setCell ⟨w.heap.size, 0, none⟩ (.int .i64 (k : Int))).setCell ⟨w.heap.size, 1, none⟩ (.int .i64 (insN k ws (offL k)).1)).setCell ⟨w.heap.size, 2, none⟩ (.int .i64 (insN k ws (offL k)).2.1)).setCell ⟨w.heap.size, 3, none⟩ (.int .i64 (insN k ws (offL k)).2.2)).setCell ⟨w.heap.size, 4, none⟩ (.int .i64 (lenM (kdN k)))).cell? ⟨wc.heap.size, 3, none⟩ = some (.int .i64 (insN k ws (offL k)).2.2) := Q5.cell 3
              have e4 : (((((w4.setCell ⟨w.heap.size, 0, none⟩ (.int .i64 (k : Int))).setCell ⟨w.heap.size, 1, none⟩ (.int .i64 (insN k ws (offL k)).1)).setCell ⟨w.heap.size, 2, none⟩ (.int .i64 (insN k ws (offL k)).2.1)).setCell ⟨w.heap.size, 3, none⟩ (.int .i64 (insN k ws (offL k)).2.2)).setCell ⟨w.heap.size, 4, none⟩ (.int .i64 (lenM (kdN k)))).cell? ⟨wc.heap.size, 4, none⟩ = some (.int .i64 (lenM (kdN k))) := Q5.cell 4
              clear Q5
              go_simp
              refine hK.out _ _ ⟨e0, e1, e2, e3, e4, B5⟩ (fun hHeld => ?_)
              clear hK K
              (try simp only [Act.put, List.setIfInBounds_toArray, List.set_cons_zero, List.set_cons_succ])
              refine wpAnyH_take (i := 4) (oi := ({ dst := some 3, op := Op.assign (Operand.tmp 116), type := 4, pos := "l05_code.go:155", after := #[{ on := 2, ground := Ground.data }, { on := 3, ground := Ground.chain }, { on := 0, ground := Ground.phase }, { on := 1, ground := Ground.phase }, { on := 2, ground := Ground.phase }, { on := 3, ground := Ground.phase }], guard := none } : Oper)) (v := ?_) rfl (by kernel_rfl) (by kernel_rfl) (by kernel_rfl) (fun _ _ _ h => h) (Or.inl ⟨by rfl, ?_⟩) (by assumption) ?_
              rotate_left
              · intro w hSw
                (try dsimp only at hSw)
                go_simp
                (try with_reducible rfl)
              (try simp only [Act.put, List.setIfInBounds_toArray, List.set_cons_zero, List.set_cons_succ])
              refine wpAnyH_done (by kernel_rfl) ?_ _
              go_wp2
              have hC := hfin.out _ rfl
              refine bodyPost_ret (v := .tuple #[insY k ws, .bool (okI (k : Int) (insN k ws (offL k)).1 (insN k ws (offL k)).2.1 (insN k ws (offL k)).2.2 (lenM (kdN k)))]) (by simp [results, Tryd.results50, go_sem, x0]) rfl ⟨hC, B5.out⟩
theorem read0_spec (s : ByteArray) (w : World) (hs : s.size ≤ 65536) :
    Calls Tryd.prog 50 #[.string s] w fun e w' => RdP (wordsB s) e ∧ Below w.heap.size w w' := by
  by_cases h0 : (wordsB s).length = 0
  · exact read_zero s w _ rfl hs h0
  by_cases hdb : (wordsB s).length = 2 ∧ wsAt (wordsB s) 0 = kdW 23
  · exact read_db s w _ rfl hs hdb.1 hdb.2
  · exact read_main s w _ rfl hs (by omega) hdb
end Go.Proofs.YtneagomkohoceaaDoor
