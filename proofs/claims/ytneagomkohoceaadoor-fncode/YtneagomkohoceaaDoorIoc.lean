/- An instruction that is read, as the specification reads it. -/
import Derived.Test.YtneagomkohoceaaDoorIqc
import Derived.Test.YtneagomkohoceaaDoorIlc
import Derived.Test.YtneagomkohoceaaDoorImc
import Derived.Test.YtneagomkohoceaaDoorIhc
namespace Go.Proofs.YtneagomkohoceaaDoor
open Go.ChangeShapes Go.WideShapes Go.ChangeAt Go.RowKit
set_option linter.unusedVariables false
set_option linter.unusedSimpArgs false

/-- the number of a word among the first j words -/
def opJ (t : ByteArray) : Nat → Int
  | 0 => -1
  | j + 1 => if kdW j = t then (j : Int) else opJ t j
theorem opJ_none {t : ByteArray} : ∀ j, (∀ i, i < j → kdW i ≠ t) → opJ t j = -1
  | 0, _ => rfl
  | j + 1, h => by
    unfold opJ
    rw [if_neg (h j (by omega))]
    exact opJ_none j (fun i hi => h i (by omega))
theorem opJ_some {t : ByteArray} {k : Nat} (hk : k < 24) (e : kdW k = t) : ∀ j, k < j → j ≤ 24 → opJ t j = (k : Int)
  | 0, h, _ => by omega
  | j + 1, h, hj => by
    unfold opJ
    by_cases hjk : j = k
    · subst hjk
      rw [if_pos e]
    · rw [if_neg (fun e' => hjk (kdW_inj j (by omega) k hk (e'.trans e.symm)))]
      exact opJ_some hk e j (by omega) (by omega)
theorem form_offs : ∀ k, k < 23 → (formT k).size = offL k ∧ ∀ j, j < offL k → byt (formT k) j = (if (offsK (kdN k)).getD j 0 = 1 then 65 else if (offsK (kdN k)).getD j 0 = 2 then 66 else 78) := by decide +kernel
theorem len_bit (k : Nat) (hk : k < 23) : 1 + bitI (hasC k 66 || hasC k 78) = lenM (kdN k) := by
  have h : ∀ k, k < 23 → 1 + bitI (hasC k 66 || hasC k 78) = lenM (kdN k) := by decide +kernel
  exact h k hk
theorem RdP.none {ws : List ByteArray} (h : ∀ k, ¬ ReadIs ws k) (o a b n l : Int) : RdP ws (.returned (.tuple #[insV o a b n l, .bool false])) := .inr ⟨h, o, a, b, n, l, rfl⟩
theorem db_ins (ws : List ByteArray) : insY 23 ws = insV 23 0 0 (numW ws 1) 1 := by
  have h : offL 23 = 1 ∧ (offsK (kdN 23)).getD 0 0 = 3 ∧ lenM (kdN 23) = 1 := by decide +kernel
  unfold insY
  rw [h.1, h.2.2]
  show insV _ (setI (0, 0, 0) ((offsK (kdN 23)).getD 0 0) (numW ws 1)).1 (setI (0, 0, 0) ((offsK (kdN 23)).getD 0 0) (numW ws 1)).2.1 (setI (0, 0, 0) ((offsK (kdN 23)).getD 0 0) (numW ws 1)).2.2 1 = _
  rw [h.2.1]
  rfl
theorem db_ok {ws : List ByteArray} (h2 : ws.length = 2) (h0 : wsAt ws 0 = kdW 23) (hn : isNum (wsAt ws 1)) (hok : okI 23 0 0 (numW ws 1) 1 = true) : ReadIs ws 23 := by
  have h : offL 23 = 1 ∧ (offsK (kdN 23)).getD 0 0 = 3 ∧ lenM (kdN 23) = 1 := by decide +kernel
  refine ⟨by omega, by omega, h0, by rw [h.1, h2], fun i hi1 hi2 => ?_, ?_⟩
  · obtain rfl : i = 1 := by omega
    exact hn
  · rw [h.1, h.2.2]
    show okI _ (setI (0, 0, 0) ((offsK (kdN 23)).getD 0 0) (numW ws 1)).1 (setI (0, 0, 0) ((offsK (kdN 23)).getD 0 0) (numW ws 1)).2.1 (setI (0, 0, 0) ((offsK (kdN 23)).getD 0 0) (numW ws 1)).2.2 1 = true
    rw [h.2.1]
    exact hok
theorem db_no {ws : List ByteArray} (h2 : ws.length = 2) (h0 : wsAt ws 0 = kdW 23) (h : ¬ (isNum (wsAt ws 1) ∧ okI 23 0 0 (numW ws 1) 1 = true)) : ∀ k, ¬ ReadIs ws k := by
  intro k hk
  obtain rfl := hk.op (by omega) h0
  refine h ⟨hk.2.2.2.2.1 1 (by omega) (by omega), ?_⟩
  have h1 := hk.2.2.2.2.2
  have hh : offL 23 = 1 ∧ (offsK (kdN 23)).getD 0 0 = 3 ∧ lenM (kdN 23) = 1 := by decide +kernel
  rw [hh.1, hh.2.2] at h1
  have h1 : okI _ (setI (0, 0, 0) ((offsK (kdN 23)).getD 0 0) (numW ws 1)).1 (setI (0, 0, 0) ((offsK (kdN 23)).getD 0 0) (numW ws 1)).2.1 (setI (0, 0, 0) ((offsK (kdN 23)).getD 0 0) (numW ws 1)).2.2 1 = true := h1
  rw [hh.2.1] at h1
  exact h1
set_option maxRecDepth 100000 in
set_option maxHeartbeats 1000000 in
theorem read_db (s : ByteArray) (w : World) (ws : List ByteArray) (hws : wordsB s = ws) (hs : s.size ≤ 65536) (h2 : ws.length = 2) (h0 : wsAt ws 0 = kdW 23) :
    Calls Tryd.prog 50 #[.string s] w fun e w' => RdP ws e ∧ Below w.heap.size w w' := by
  have hsz : (wsAt ws 1).size ≤ 1000000 := by rw [← hws]; have := words_size s 1; omega
  have hok1 := hid (fun hn hk => db_ok h2 h0 hn hk)
  have hno1 := hid (fun h => db_no h2 h0 h)
  have hyes : Hid (isNum (wsAt ws 1) → okI 23 0 0 (numW ws 1) 1 = true → RdP ws (.returned (.tuple #[insV 23 0 0 (numW ws 1) 1, .bool true]))) := fun hn hk => .inl ⟨23, db_ok h2 h0 hn hk, by rw [db_ins]⟩
  have hnon : Hid (¬ (isNum (wsAt ws 1) ∧ okI 23 0 0 (numW ws 1) 1 = true) → ∀ o a b n l, RdP ws (.returned (.tuple #[insV o a b n l, .bool false]))) := fun h => RdP.none (db_no h2 h0 h)
  replace hws := hid hws
  go_enter Tryd.func50, Tryd.ntmps50
  go_wp2_with fail
  refine (words_spec0 s _ hs).mono ?_
  rintro e w1 ⟨v, rfl, hown, hb⟩
  rw [hws.out] at hown
  obtain ⟨va, vc, g, rfl, hvc, hva, hR⟩ := RSt.start hb hown
  have hva' := hva (by omega)
  subst hva'
  rw [h2]
  have c0 := hR.vc 0 (by omega)
  have c1 := hR.vc 1 (by omega)
  rw [h0] at c0
  have hk23 : kdW 23 = ⟨#[100, 98]⟩ := by decide +kernel
  rw [hk23] at c0
  have hnum : numW ws 1 = valS (wsAt ws 1) (wsAt ws 1).size := rfl
  generalize wsAt ws 1 = t1 at *
  replace hR := hid hR
  clear hb hown hva hvc h0 hk23 hok1 hno1
  go_wp2_with fail
  refine (num_spec t1 _ hsz).mono ?_
  rintro e w2 ⟨⟨m, rfl, hm⟩, hb⟩
  have hR2 := hid (hR.out.below hb)
  clear hb hR c0 c1
  by_cases hn : isNum t1
  · skip
    rw [decide_eq_true hn]
    have em := hm hn
    rw [← hnum] at em
    rw [← em] at hyes hnon
    clear em hnum
    clear hm
    have Q := Blk.new w2 #[.int .i64 23, .int .i64 0, .int .i64 0, .int .i64 m, .int .i64 1] 24
    have hR3 := hid (hR2.out.alloc (.cells #[.int .i64 23, .int .i64 0, .int .i64 0, .int .i64 m, .int .i64 1] 24))
    have hlt2 := hR2.out.q.lt
    clear hR2
    go_upto_region 5 with fail
    obtain ⟨W3, hW3⟩ : ∃ W, w2.alloc (.cells #[.int .i64 23, .int .i64 0, .int .i64 0, .int .i64 m, .int .i64 1] 24) = W := ⟨_, rfl⟩
    rw [hW3] at Q hR3 ⊢
    clear hW3
    have hS3 : Hid (Below w.heap.size w W3.drew) := hid hR3.out.bel.drew
    have d0 : W3.cell? ⟨w2.heap.size, 0, none⟩ = some (.int .i64 23) := Q.cell 0
    have d1 : W3.cell? ⟨w2.heap.size, 1, none⟩ = some (.int .i64 0) := Q.cell 1
    have d2 : W3.cell? ⟨w2.heap.size, 2, none⟩ = some (.int .i64 0) := Q.cell 2
    have d3 : W3.cell? ⟨w2.heap.size, 3, none⟩ = some (.int .i64 m) := Q.cell 3
    have d4 : W3.cell? ⟨w2.heap.size, 4, none⟩ = some (.int .i64 1) := Q.cell 4
    replace Q := hid Q
    refine wp_region_held_drew (S := (fun w' => w'.cell? ⟨w2.heap.size, 0, none⟩ = some (.int .i64 23) ∧ w'.cell? ⟨w2.heap.size, 1, none⟩ = some (.int .i64 0) ∧ w'.cell? ⟨w2.heap.size, 2, none⟩ = some (.int .i64 0) ∧ w'.cell? ⟨w2.heap.size, 3, none⟩ = some (.int .i64 m) ∧ w'.cell? ⟨w2.heap.size, 4, none⟩ = some (.int .i64 1) ∧ Hid (Below w.heap.size w w'))) (by kernel_rfl) ⟨d0, d1, d2, d3, d4, hS3⟩ (fun hHeld => ?_)
    refine wpAnyH_take (i := 0) (oi := ({ dst := some 34, op := Op.load 24 (Operand.tmp 7), type := 24, pos := "l05_code.go:129", after := #[], guard := none } : Oper)) (v := ?_) rfl (by kernel_rfl) (by kernel_rfl) (by kernel_rfl) (fun _ _ _ h => h) (Or.inl ⟨by rfl, ?_⟩) (by assumption) ?_
    rotate_left
    · intro w hSw
      (try dsimp only at hSw)
      go_simp
      (try with_reducible rfl)
    (try simp only [Act.put, List.setIfInBounds_toArray, List.set_cons_zero, List.set_cons_succ])
    refine wpAnyH_take (i := 1) (oi := ({ dst := some 35, op := Op.move (Operand.tmp 6), type := 4, pos := "l05_code.go:129", after := #[], guard := none } : Oper)) (v := ?_) rfl (by kernel_rfl) (by kernel_rfl) (by kernel_rfl) (fun _ _ _ h => h) (Or.inl ⟨by rfl, ?_⟩) (by assumption) ?_
    rotate_left
    · intro w hSw
      (try dsimp only at hSw)
      go_simp
      (try with_reducible rfl)
    (try simp only [Act.put, List.setIfInBounds_toArray, List.set_cons_zero, List.set_cons_succ])
    refine wpAnyH_take (i := 2) (oi := ({ dst := some 36, op := Op.move (Operand.tmp 35), type := 4, pos := "l05_code.go:129", after := #[{ on := 1, ground := Ground.data }], guard := none } : Oper)) (v := ?_) rfl (by kernel_rfl) (by kernel_rfl) (by kernel_rfl) (fun _ _ _ h => h) (Or.inl ⟨by rfl, ?_⟩) (by assumption) ?_
    rotate_left
    · intro w hSw
      (try dsimp only at hSw)
      go_simp
      (try with_reducible rfl)
    (try simp only [Act.put, List.setIfInBounds_toArray, List.set_cons_zero, List.set_cons_succ])
    refine wpAnyH_take (i := 3) (oi := ({ dst := some 37, op := Op.load 24 (Operand.tmp 7), type := 24, pos := "l05_code.go:129", after := #[{ on := 2, ground := Ground.guard }], guard := some (2, true) } : Oper)) (v := ?_) rfl (by kernel_rfl) (by kernel_rfl) (by kernel_rfl) (fun _ _ _ h => h) (Or.inl ⟨by rfl, ?_⟩) (by assumption) ?_
    rotate_left
    · intro w hSw
      (try dsimp only at hSw)
      go_simp
      (try with_reducible rfl)
    (try simp only [Act.put, List.setIfInBounds_toArray, List.set_cons_zero, List.set_cons_succ])
    refine wpAnyH_ready (rs := [4]) (by kernel_rfl) (by simp) ?_
    refine AllReadyH.cons (o := ({ dst := some 38, op := Op.call { callee := Callee.value (Operand.func 28), args := #[Operand.tmp 37], argTypes := #[24] }, type := 4, pos := "l05_code.go:129", after := #[{ on := 3, ground := Ground.data }, { on := 2, ground := Ground.chain }, { on := 2, ground := Ground.guard }], guard := some (2, true) } : Oper)) rfl (fun K hK => ?_) AllReadyH.nil
    go_simp
    go_at_call 28
    refine (insok_spec _ _ _ _ _ _).mono ?_
    rintro e w4 ⟨rfl, hb⟩
    have Q4 := hid ((blk_drew Q.out).below hb Q.out.lt)
    have hR4 := hid (hR3.out.drew.below hb)
    have hS4 := hid hR4.out.bel
    have f0 : w4.cell? ⟨w2.heap.size, 0, none⟩ = some (.int .i64 23) := Q4.out.cell 0
    have f1 : w4.cell? ⟨w2.heap.size, 1, none⟩ = some (.int .i64 0) := Q4.out.cell 1
    have f2 : w4.cell? ⟨w2.heap.size, 2, none⟩ = some (.int .i64 0) := Q4.out.cell 2
    have f3 : w4.cell? ⟨w2.heap.size, 3, none⟩ = some (.int .i64 m) := Q4.out.cell 3
    have f4 : w4.cell? ⟨w2.heap.size, 4, none⟩ = some (.int .i64 1) := Q4.out.cell 4
    clear hb
    go_wp2_with fail
    refine hK.out _ _ ⟨f0, f1, f2, f3, f4, hS4⟩ (fun hHeld => ?_)
    clear hK K
    (try simp only [Act.put, List.setIfInBounds_toArray, List.set_cons_zero, List.set_cons_succ])
    clear f0 f1 f2 f3 f4
    refine wpAnyH_take (i := 5) (oi := ({ dst := some 39, op := Op.pick (Operand.tmp 36) (Operand.tmp 38) (Operand.const (Value.bool false)), type := 4, pos := "l05_code.go:129", after := #[{ on := 2, ground := Ground.data }, { on := 4, ground := Ground.data }, { on := 6, ground := Ground.gcOnly Departure.lateStores }], guard := none } : Oper)) (v := ?_) rfl (by kernel_rfl) (by kernel_rfl) (by kernel_rfl) (fun _ _ _ h => h) (Or.inl ⟨by rfl, ?_⟩) (by assumption) ?_
    rotate_left
    · intro w hSw
      (try dsimp only at hSw)
      go_simp
      (try with_reducible rfl)
    (try simp only [Act.put, List.setIfInBounds_toArray, List.set_cons_zero, List.set_cons_succ])
    refine wpAnyH_ready (rs := [6]) (by kernel_rfl) (by simp) ?_
    refine AllReadyH.cons (o := ({ dst := none, op := Op.store 24 (Operand.tmp 2) (Operand.tmp 34), type := 0, pos := "l05_code.go:129", after := #[{ on := 0, ground := Ground.data }, { on := 4, ground := Ground.chain }, { on := 0, ground := Ground.phase }, { on := 1, ground := Ground.textOnly Departure.lateStores }, { on := 2, ground := Ground.textOnly Departure.lateStores }, { on := 3, ground := Ground.textOnly Departure.lateStores }, { on := 4, ground := Ground.textOnly Departure.lateStoresUnsure }, { on := 5, ground := Ground.textOnly Departure.lateStores }], guard := none } : Oper)) rfl (fun K hK => ?_) AllReadyH.nil
    have x0 := hR4.out.q.cell
    have f0 := hR4.out.q.frozen
    have z0 := hR4.out.q.lt
    have Q5 := (((((Q4.out.other (p := ⟨w.heap.size, 0, none⟩) (by dsimp only; omega) (.int .i64 23)).other (p := ⟨w.heap.size, 1, none⟩) (by dsimp only; omega) (.int .i64 0)).other (p := ⟨w.heap.size, 2, none⟩) (by dsimp only; omega) (.int .i64 0)).other (p := ⟨w.heap.size, 3, none⟩) (by dsimp only; omega) (.int .i64 m)).other (p := ⟨w.heap.size, 4, none⟩) (by dsimp only; omega) (.int .i64 1))
    have B5 : Hid (Below w.heap.size w (((((w4.setCell ⟨w.heap.size, 0, none⟩ (.int .i64 23)).setCell ⟨w.heap.size, 1, none⟩ (.int .i64 0)).setCell ⟨w.heap.size, 2, none⟩ (.int .i64 0)).setCell ⟨w.heap.size, 3, none⟩ (.int .i64 m)).setCell ⟨w.heap.size, 4, none⟩ (.int .i64 1))) := hid ((((((hR4.out.bel.setCell (p := ⟨w.heap.size, 0, none⟩) (by dsimp only; omega) (.int .i64 23)).setCell (p := ⟨w.heap.size, 1, none⟩) (by dsimp only; omega) (.int .i64 0)).setCell (p := ⟨w.heap.size, 2, none⟩) (by dsimp only; omega) (.int .i64 0)).setCell (p := ⟨w.heap.size, 3, none⟩) (by dsimp only; omega) (.int .i64 m)).setCell (p := ⟨w.heap.size, 4, none⟩) (by dsimp only; omega) (.int .i64 1)))
    have e0 : ((((((w4.setCell ⟨w.heap.size, 0, none⟩ (.int .i64 23)).setCell ⟨w.heap.size, 1, none⟩ (.int .i64 0)).setCell ⟨w.heap.size, 2, none⟩ (.int .i64 0)).setCell ⟨w.heap.size, 3, none⟩ (.int .i64 m)).setCell ⟨w.heap.size, 4, none⟩ (.int .i64 1))).cell? ⟨w2.heap.size, 0, none⟩ = some (.int .i64 23) := Q5.cell 0
    have e1 : ((((((w4.setCell ⟨w.heap.size, 0, none⟩ (.int .i64 23)).setCell ⟨w.heap.size, 1, none⟩ (.int .i64 0)).setCell ⟨w.heap.size, 2, none⟩ (.int .i64 0)).setCell ⟨w.heap.size, 3, none⟩ (.int .i64 m)).setCell ⟨w.heap.size, 4, none⟩ (.int .i64 1))).cell? ⟨w2.heap.size, 1, none⟩ = some (.int .i64 0) := Q5.cell 1
    have e2 : ((((((w4.setCell ⟨w.heap.size, 0, none⟩ (.int .i64 23)).setCell ⟨w.heap.size, 1, none⟩ (.int .i64 0)).setCell ⟨w.heap.size, 2, none⟩ (.int .i64 0)).setCell ⟨w.heap.size, 3, none⟩ (.int .i64 m)).setCell ⟨w.heap.size, 4, none⟩ (.int .i64 1))).cell? ⟨w2.heap.size, 2, none⟩ = some (.int .i64 0) := Q5.cell 2
    have e3 : ((((((w4.setCell ⟨w.heap.size, 0, none⟩ (.int .i64 23)).setCell ⟨w.heap.size, 1, none⟩ (.int .i64 0)).setCell ⟨w.heap.size, 2, none⟩ (.int .i64 0)).setCell ⟨w.heap.size, 3, none⟩ (.int .i64 m)).setCell ⟨w.heap.size, 4, none⟩ (.int .i64 1))).cell? ⟨w2.heap.size, 3, none⟩ = some (.int .i64 m) := Q5.cell 3
    have e4 : ((((((w4.setCell ⟨w.heap.size, 0, none⟩ (.int .i64 23)).setCell ⟨w.heap.size, 1, none⟩ (.int .i64 0)).setCell ⟨w.heap.size, 2, none⟩ (.int .i64 0)).setCell ⟨w.heap.size, 3, none⟩ (.int .i64 m)).setCell ⟨w.heap.size, 4, none⟩ (.int .i64 1))).cell? ⟨w2.heap.size, 4, none⟩ = some (.int .i64 1) := Q5.cell 4
    clear Q5
    go_simp
    refine hK.out _ _ ⟨e0, e1, e2, e3, e4, B5⟩ (fun hHeld => ?_)
    clear hK K
    (try simp only [Act.put, List.setIfInBounds_toArray, List.set_cons_zero, List.set_cons_succ])
    refine wpAnyH_take (i := 7) (oi := ({ dst := some 3, op := Op.assign (Operand.tmp 39), type := 4, pos := "l05_code.go:129", after := #[{ on := 5, ground := Ground.data }, { on := 6, ground := Ground.chain }, { on := 0, ground := Ground.phase }, { on := 1, ground := Ground.phase }, { on := 2, ground := Ground.phase }, { on := 3, ground := Ground.phase }, { on := 4, ground := Ground.phase }, { on := 5, ground := Ground.phase }, { on := 6, ground := Ground.phase }], guard := none } : Oper)) (v := ?_) rfl (by kernel_rfl) (by kernel_rfl) (by kernel_rfl) (fun _ _ _ h => h) (Or.inl ⟨by rfl, ?_⟩) (by assumption) ?_
    rotate_left
    · intro w hSw
      (try dsimp only at hSw)
      go_simp
      (try with_reducible rfl)
    (try simp only [Act.put, List.setIfInBounds_toArray, List.set_cons_zero, List.set_cons_succ])
    refine wpAnyH_done (by kernel_rfl) ?_ _
    go_wp2
    cases hk : okI 23 0 0 m 1
    · have hC := hnon.out (fun h => by rw [hk] at h; exact absurd h.2 (by decide)) 23 0 0 m 1
      refine bodyPost_ret (v := .tuple #[insV 23 0 0 m 1, .bool false]) (by simp [results, Tryd.results50, go_sem, x0]) rfl ⟨hC, B5.out⟩
    · have hC := hyes.out hn hk
      refine bodyPost_ret (v := .tuple #[insV 23 0 0 m 1, .bool true]) (by simp [results, Tryd.results50, go_sem, x0]) rfl ⟨hC, B5.out⟩
  · skip
    rw [decide_eq_false hn]
    have hN := hid (hnon.out (fun h => hn h.1))
    clear hm hnon
    have Q := Blk.new w2 #[.int .i64 23, .int .i64 0, .int .i64 0, .int .i64 m, .int .i64 1] 24
    have hR3 := hid (hR2.out.alloc (.cells #[.int .i64 23, .int .i64 0, .int .i64 0, .int .i64 m, .int .i64 1] 24))
    have hlt2 := hR2.out.q.lt
    clear hR2
    go_upto_region 5 with fail
    obtain ⟨W3, hW3⟩ : ∃ W, w2.alloc (.cells #[.int .i64 23, .int .i64 0, .int .i64 0, .int .i64 m, .int .i64 1] 24) = W := ⟨_, rfl⟩
    rw [hW3] at Q hR3 ⊢
    clear hW3
    have hS3 : Hid (Below w.heap.size w W3.drew) := hid hR3.out.bel.drew
    have d0 : W3.cell? ⟨w2.heap.size, 0, none⟩ = some (.int .i64 23) := Q.cell 0
    have d1 : W3.cell? ⟨w2.heap.size, 1, none⟩ = some (.int .i64 0) := Q.cell 1
    have d2 : W3.cell? ⟨w2.heap.size, 2, none⟩ = some (.int .i64 0) := Q.cell 2
    have d3 : W3.cell? ⟨w2.heap.size, 3, none⟩ = some (.int .i64 m) := Q.cell 3
    have d4 : W3.cell? ⟨w2.heap.size, 4, none⟩ = some (.int .i64 1) := Q.cell 4
    replace Q := hid Q
    refine wp_region_held_drew (S := (fun w' => w'.cell? ⟨w2.heap.size, 0, none⟩ = some (.int .i64 23) ∧ w'.cell? ⟨w2.heap.size, 1, none⟩ = some (.int .i64 0) ∧ w'.cell? ⟨w2.heap.size, 2, none⟩ = some (.int .i64 0) ∧ w'.cell? ⟨w2.heap.size, 3, none⟩ = some (.int .i64 m) ∧ w'.cell? ⟨w2.heap.size, 4, none⟩ = some (.int .i64 1) ∧ Hid (Below w.heap.size w w'))) (by kernel_rfl) ⟨d0, d1, d2, d3, d4, hS3⟩ (fun hHeld => ?_)
    refine wpAnyH_take (i := 0) (oi := ({ dst := some 34, op := Op.load 24 (Operand.tmp 7), type := 24, pos := "l05_code.go:129", after := #[], guard := none } : Oper)) (v := ?_) rfl (by kernel_rfl) (by kernel_rfl) (by kernel_rfl) (fun _ _ _ h => h) (Or.inl ⟨by rfl, ?_⟩) (by assumption) ?_
    rotate_left
    · intro w hSw
      (try dsimp only at hSw)
      go_simp
      (try with_reducible rfl)
    (try simp only [Act.put, List.setIfInBounds_toArray, List.set_cons_zero, List.set_cons_succ])
    refine wpAnyH_take (i := 1) (oi := ({ dst := some 35, op := Op.move (Operand.tmp 6), type := 4, pos := "l05_code.go:129", after := #[], guard := none } : Oper)) (v := ?_) rfl (by kernel_rfl) (by kernel_rfl) (by kernel_rfl) (fun _ _ _ h => h) (Or.inl ⟨by rfl, ?_⟩) (by assumption) ?_
    rotate_left
    · intro w hSw
      (try dsimp only at hSw)
      go_simp
      (try with_reducible rfl)
    (try simp only [Act.put, List.setIfInBounds_toArray, List.set_cons_zero, List.set_cons_succ])
    refine wpAnyH_take (i := 2) (oi := ({ dst := some 36, op := Op.move (Operand.tmp 35), type := 4, pos := "l05_code.go:129", after := #[{ on := 1, ground := Ground.data }], guard := none } : Oper)) (v := ?_) rfl (by kernel_rfl) (by kernel_rfl) (by kernel_rfl) (fun _ _ _ h => h) (Or.inl ⟨by rfl, ?_⟩) (by assumption) ?_
    rotate_left
    · intro w hSw
      (try dsimp only at hSw)
      go_simp
      (try with_reducible rfl)
    (try simp only [Act.put, List.setIfInBounds_toArray, List.set_cons_zero, List.set_cons_succ])
    refine wpAnyH_take (i := 3) (oi := ({ dst := some 37, op := Op.load 24 (Operand.tmp 7), type := 24, pos := "l05_code.go:129", after := #[{ on := 2, ground := Ground.guard }], guard := some (2, true) } : Oper)) (v := undef) rfl (by kernel_rfl) (by kernel_rfl) (by kernel_rfl) (fun _ _ _ h => h) (Or.inr ⟨by rfl, rfl⟩) (by assumption) ?_
    (try simp only [Act.put, List.setIfInBounds_toArray, List.set_cons_zero, List.set_cons_succ])
    refine wpAnyH_take (i := 4) (oi := ({ dst := some 38, op := Op.call { callee := Callee.value (Operand.func 28), args := #[Operand.tmp 37], argTypes := #[24] }, type := 4, pos := "l05_code.go:129", after := #[{ on := 3, ground := Ground.data }, { on := 2, ground := Ground.chain }, { on := 2, ground := Ground.guard }], guard := some (2, true) } : Oper)) (v := undef) rfl (by kernel_rfl) (by kernel_rfl) (by kernel_rfl) (fun _ _ _ h => h) (Or.inr ⟨by rfl, rfl⟩) (by assumption) ?_
    (try simp only [Act.put, List.setIfInBounds_toArray, List.set_cons_zero, List.set_cons_succ])
    refine wpAnyH_take (i := 5) (oi := ({ dst := some 39, op := Op.pick (Operand.tmp 36) (Operand.tmp 38) (Operand.const (Value.bool false)), type := 4, pos := "l05_code.go:129", after := #[{ on := 2, ground := Ground.data }, { on := 4, ground := Ground.data }, { on := 6, ground := Ground.gcOnly Departure.lateStores }], guard := none } : Oper)) (v := ?_) rfl (by kernel_rfl) (by kernel_rfl) (by kernel_rfl) (fun _ _ _ h => h) (Or.inl ⟨by rfl, ?_⟩) (by assumption) ?_
    rotate_left
    · intro w hSw
      (try dsimp only at hSw)
      go_simp
      (try with_reducible rfl)
    (try simp only [Act.put, List.setIfInBounds_toArray, List.set_cons_zero, List.set_cons_succ])
    refine wpAnyH_ready (rs := [6]) (by kernel_rfl) (by simp) ?_
    refine AllReadyH.cons (o := ({ dst := none, op := Op.store 24 (Operand.tmp 2) (Operand.tmp 34), type := 0, pos := "l05_code.go:129", after := #[{ on := 0, ground := Ground.data }, { on := 4, ground := Ground.chain }, { on := 0, ground := Ground.phase }, { on := 1, ground := Ground.textOnly Departure.lateStores }, { on := 2, ground := Ground.textOnly Departure.lateStores }, { on := 3, ground := Ground.textOnly Departure.lateStores }, { on := 4, ground := Ground.textOnly Departure.lateStoresUnsure }, { on := 5, ground := Ground.textOnly Departure.lateStores }], guard := none } : Oper)) rfl (fun K hK => ?_) AllReadyH.nil
    have x0 := hR3.out.q.cell
    have f0 := hR3.out.q.frozen
    have z0 := hR3.out.q.lt
    have Q5 := blk_drew (((((Q.out.other (p := ⟨w.heap.size, 0, none⟩) (by dsimp only; omega) (.int .i64 23)).other (p := ⟨w.heap.size, 1, none⟩) (by dsimp only; omega) (.int .i64 0)).other (p := ⟨w.heap.size, 2, none⟩) (by dsimp only; omega) (.int .i64 0)).other (p := ⟨w.heap.size, 3, none⟩) (by dsimp only; omega) (.int .i64 m)).other (p := ⟨w.heap.size, 4, none⟩) (by dsimp only; omega) (.int .i64 1))
    have B5 : Hid (Below w.heap.size w (((((W3.setCell ⟨w.heap.size, 0, none⟩ (.int .i64 23)).setCell ⟨w.heap.size, 1, none⟩ (.int .i64 0)).setCell ⟨w.heap.size, 2, none⟩ (.int .i64 0)).setCell ⟨w.heap.size, 3, none⟩ (.int .i64 m)).setCell ⟨w.heap.size, 4, none⟩ (.int .i64 1)).drew) := hid ((((((hR3.out.bel.setCell (p := ⟨w.heap.size, 0, none⟩) (by dsimp only; omega) (.int .i64 23)).setCell (p := ⟨w.heap.size, 1, none⟩) (by dsimp only; omega) (.int .i64 0)).setCell (p := ⟨w.heap.size, 2, none⟩) (by dsimp only; omega) (.int .i64 0)).setCell (p := ⟨w.heap.size, 3, none⟩) (by dsimp only; omega) (.int .i64 m)).setCell (p := ⟨w.heap.size, 4, none⟩) (by dsimp only; omega) (.int .i64 1)).drew)
    have e0 : ((((((W3.setCell ⟨w.heap.size, 0, none⟩ (.int .i64 23)).setCell ⟨w.heap.size, 1, none⟩ (.int .i64 0)).setCell ⟨w.heap.size, 2, none⟩ (.int .i64 0)).setCell ⟨w.heap.size, 3, none⟩ (.int .i64 m)).setCell ⟨w.heap.size, 4, none⟩ (.int .i64 1)).drew).cell? ⟨w2.heap.size, 0, none⟩ = some (.int .i64 23) := Q5.cell 0
    have e1 : ((((((W3.setCell ⟨w.heap.size, 0, none⟩ (.int .i64 23)).setCell ⟨w.heap.size, 1, none⟩ (.int .i64 0)).setCell ⟨w.heap.size, 2, none⟩ (.int .i64 0)).setCell ⟨w.heap.size, 3, none⟩ (.int .i64 m)).setCell ⟨w.heap.size, 4, none⟩ (.int .i64 1)).drew).cell? ⟨w2.heap.size, 1, none⟩ = some (.int .i64 0) := Q5.cell 1
    have e2 : ((((((W3.setCell ⟨w.heap.size, 0, none⟩ (.int .i64 23)).setCell ⟨w.heap.size, 1, none⟩ (.int .i64 0)).setCell ⟨w.heap.size, 2, none⟩ (.int .i64 0)).setCell ⟨w.heap.size, 3, none⟩ (.int .i64 m)).setCell ⟨w.heap.size, 4, none⟩ (.int .i64 1)).drew).cell? ⟨w2.heap.size, 2, none⟩ = some (.int .i64 0) := Q5.cell 2
    have e3 : ((((((W3.setCell ⟨w.heap.size, 0, none⟩ (.int .i64 23)).setCell ⟨w.heap.size, 1, none⟩ (.int .i64 0)).setCell ⟨w.heap.size, 2, none⟩ (.int .i64 0)).setCell ⟨w.heap.size, 3, none⟩ (.int .i64 m)).setCell ⟨w.heap.size, 4, none⟩ (.int .i64 1)).drew).cell? ⟨w2.heap.size, 3, none⟩ = some (.int .i64 m) := Q5.cell 3
    have e4 : ((((((W3.setCell ⟨w.heap.size, 0, none⟩ (.int .i64 23)).setCell ⟨w.heap.size, 1, none⟩ (.int .i64 0)).setCell ⟨w.heap.size, 2, none⟩ (.int .i64 0)).setCell ⟨w.heap.size, 3, none⟩ (.int .i64 m)).setCell ⟨w.heap.size, 4, none⟩ (.int .i64 1)).drew).cell? ⟨w2.heap.size, 4, none⟩ = some (.int .i64 1) := Q5.cell 4
    clear Q5
    go_simp
    refine hK.out _ _ ⟨e0, e1, e2, e3, e4, B5⟩ (fun hHeld => ?_)
    clear hK K
    (try simp only [Act.put, List.setIfInBounds_toArray, List.set_cons_zero, List.set_cons_succ])
    refine wpAnyH_take (i := 7) (oi := ({ dst := some 3, op := Op.assign (Operand.tmp 39), type := 4, pos := "l05_code.go:129", after := #[{ on := 5, ground := Ground.data }, { on := 6, ground := Ground.chain }, { on := 0, ground := Ground.phase }, { on := 1, ground := Ground.phase }, { on := 2, ground := Ground.phase }, { on := 3, ground := Ground.phase }, { on := 4, ground := Ground.phase }, { on := 5, ground := Ground.phase }, { on := 6, ground := Ground.phase }], guard := none } : Oper)) (v := ?_) rfl (by kernel_rfl) (by kernel_rfl) (by kernel_rfl) (fun _ _ _ h => h) (Or.inl ⟨by rfl, ?_⟩) (by assumption) ?_
    rotate_left
    · intro w hSw
      (try dsimp only at hSw)
      go_simp
      (try with_reducible rfl)
    (try simp only [Act.put, List.setIfInBounds_toArray, List.set_cons_zero, List.set_cons_succ])
    refine wpAnyH_done (by kernel_rfl) ?_ _
    go_wp2
    refine bodyPost_ret (v := .tuple #[insV 23 0 0 m 1, .bool false]) (by simp [results, Tryd.results50, go_sem, x0]) rfl ⟨hN.out _ _ _ _ _, B5.out⟩
end Go.Proofs.YtneagomkohoceaaDoor
