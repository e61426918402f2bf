/- What the program's ReadInstr answers. -/
import Derived.Test.YtneagomkohoceaaDoorC46
import Derived.Test.YtneagomkohoceaaDoorKnc
import Derived.Test.YtneagomkohoceaaDoorKbc
namespace Go.Proofs.YtneagomkohoceaaDoor
open Go.ChangeShapes Go.WideShapes Go.ChangeAt Go.RowKit Go.WideMaps Go.Maps
set_option linter.unusedVariables false
set_option linter.unusedSimpArgs false

theorem isMapK : ∀ n, IsMap (DK n)
  | 0 => isMap_empty
  | n + 1 => (isMapK n).put _ _
theorem key_ne {t : ByteArray} {k : Nat} (h : kdW k ≠ t) : (Lit.string t.data.toList) ≠ .string (kdWL.getD k []) := fun e => by
  injection e with e
  apply h
  apply ByteArray.ext
  apply Array.toList_inj.1
  rw [e]
  simp [kdW]
theorem key_eq (k : Nat) : (Lit.string (kdW k).data.toList) = .string (kdWL.getD k []) := by simp [kdW]
theorem isKey (l : List UInt8) : WideAt.IsKeyLit (.string l) := by simp [WideAt.IsKeyLit]
theorem DK_none {t : ByteArray} : ∀ n, (∀ k, k < n → kdW k ≠ t) → Maps.has (DK n) (.string t.data.toList) = false
  | 0, _ => rfl
  | n + 1, h => by
    unfold DK
    rw [has_put_other (key_ne (h n (by omega)))]
    exact DK_none n (fun k hk => h k (by omega))
theorem DK_some {k : Nat} (hk : k < 24) : ∀ n, k < n → n ≤ 24 → Maps.has (DK n) (.string (kdW k).data.toList) = true ∧ ∀ z, (DK n).atKey (.string (kdW k).data.toList) z = .lit (.int .i64 (k : Int))
  | 0, h, _ => by omega
  | n + 1, h, hn => by
    unfold DK
    by_cases e : k = n
    · subst e
      rw [key_eq]
      exact ⟨has_put_same (isMapK k) (isKey _) _, fun z => atKey_put_same (isMapK k) (isKey _) _ z⟩
    · have hne : kdW n ≠ kdW k := fun e' => e (kdW_inj k hk n (by omega) e'.symm)
      have ih := DK_some hk n (by omega) (by omega)
      refine ⟨by rw [has_put_other (key_ne hne)]; exact ih.1, fun z => by rw [atKey_put_other (key_ne hne)]; exact ih.2 z⟩
set_option maxRecDepth 100000 in
theorem look_word {w : World} {B : Nat} {t : ByteArray} (h : w.ownsMap Tryd.prog 9 (plainElem Tryd.prog 3) B 24 (DK 24)) (ht : t.size ≤ maxLen) :
    ∃ c ok, (Instr.lookup 78 (.map (some B)) (.string t) true).run Tryd.prog w = .ok (.tuple #[.int .i64 c, .bool ok]) w ∧ ((∀ k, k < 24 → kdW k ≠ t) → ok = false) ∧ (∀ k, k < 24 → kdW k = t → ok = true ∧ c = (k : Int)) := by
  have hn24 := DK_none (t := t) 24
  have hs24 := fun k hk => DK_some (k := k) hk 24 hk (Nat.le_refl _)
  generalize DK 24 = D at *
  obtain ⟨v, ps, hrun, hv⟩ := h.look_ok strK Tryd.underlying78 (zeroI w) (plainElem_int (H := Unit) Tryd.underlying3 (a := 0) (by decide)) (keyOf_string_mk Tryd.underlying9 ht)
  obtain ⟨c, rfl, hz, _⟩ := plainElem_int_inv Tryd.underlying3 hv
  refine ⟨c, _, hrun, fun hn => hn24 hn, fun k hk e => ?_⟩
  subst e
  have hD := hs24 k hk
  refine ⟨hD.1, ?_⟩
  have e1 := congrArg Prod.fst hz
  rw [hD.2] at e1
  injection e1 with e1
  injection e1 with _ e1
  exact e1.symm
theorem RdE.none {s : ByteArray} (h : ¬ 65536 < s.size) (hn : ∀ k, ¬ ReadIs (wordsB s) k) : RdE s (.returned (.tuple #[insV 0 0 0 0 0, .int .i64 3])) := .inr ⟨h, .inr ⟨hn, rfl⟩⟩
set_option maxRecDepth 100000 in
set_option maxHeartbeats 4000000 in
theorem readi_impl (s : ByteArray) (w : World) (hK : Kinds w) (hs : s.size ≤ maxLen) :
    Calls Tryd.prog 16 #[.string s] w fun e w' => RdE s e ∧ Below w.heap.size w w' := by
  unfold maxLen at hs
  have hb0 := hid ((Below.refl w.heap.size w).alloc (Nat.le_refl _) (.cells zer5 24))
  by_cases h : 65536 < s.size
  · have hE : Hid (RdE s (.returned (.tuple #[insV 0 0 0 0 0, .int .i64 2]))) := .inl ⟨h, rfl⟩
    go_enter Tryd.func16, Tryd.ntmps16
    go_wp2
    refine bodyPost_ret (v := .tuple #[insV 0 0 0 0 0, .int .i64 2]) (by simp [results, Tryd.results16, go_sem]) rfl ⟨hE.out, hb0.out⟩
  have h' : s.size ≤ 65536 := by omega
  obtain ⟨ws, hws⟩ : ∃ ws, wordsB s = ws := ⟨_, rfl⟩
  have hsz : Hid (∀ i, (wsAt ws i).size ≤ 65536) := fun i => by rw [← hws]; have := words_size s i; omega
  have hwl : ws.length ≤ 65537 := by
    rw [← hws]
    unfold wordsB
    rw [List.length_map]
    have h1 := wdS_len s (s.size + 1)
    have h2 := wdS_le s (s.size + 1)
    omega
  have hNo : Hid ((∀ k, ¬ ReadIs ws k) → RdE s (.returned (.tuple #[insV 0 0 0 0 0, .int .i64 3]))) := fun hn => RdE.none h (by rw [hws]; exact hn)
  have hYes : Hid (∀ k, ReadIs ws k → RdE s (.returned (.tuple #[insY k ws, .int .i64 0]))) := fun k hk => .inr ⟨h, .inl ⟨k, by rw [hws]; exact hk, by rw [hws]⟩⟩
  replace hws := hid hws
  have hKd := hid hK
  clear hK
  go_enter Tryd.func16, Tryd.ntmps16
  go_wp2_with fail
  refine (words_impl s _ h').mono ?_
  rintro e w1 ⟨v, rfl, hown, hb⟩
  rw [hws.out] at hown
  obtain ⟨va, vc, g, rfl, hvc, hva, hR⟩ := RSt.start hb hown
  obtain ⟨n1, hn1⟩ : ∃ n, ws.length = n := ⟨_, rfl⟩
  rw [hn1] at hvc hva hwl ⊢
  replace hR := hid hR
  clear hb hown hb0
  by_cases h0 : n1 = 0
  · have hE := hid (hNo.out (fun k hk => by have := hk.2.1; omega))
    have h0' : ((n1 : Int) == 0) = true := by simp; omega
    have x0 := hR.out.q.cell
    have f0 := hR.out.q.frozen
    have z0 := hR.out.q.lt
    have b0 := hid hR.out.bel
    clear hva hvc h0
    go_wp2
    refine bodyPost_ret (v := .tuple #[insV 0 0 0 0 0, .int .i64 3]) (by simp [results, Tryd.results16, go_sem, x0]) rfl ⟨hE.out, ?_⟩
    iterate 5 refine Below.setCell ?_ (by first | omega | (simp; done) | (simp; omega)) _
    exact b0.out
  have h0' : ((n1 : Int) == 0) = false := by simp; omega
  have hn0 : (0 : Int) < (n1 : Int) := by omega
  have hn0' : 0 < n1 := by omega
  have hva' := hva (by omega)
  subst hva'
  have c0 := hR.out.vc 0 (by omega)
  obtain ⟨t, ht⟩ : ∃ t, wsAt ws 0 = t := ⟨_, rfl⟩
  have htz : Hid (t.size ≤ maxLen) := by have := hsz.out 0; rw [ht] at this; show t.size ≤ maxLen; unfold maxLen; omega
  rw [ht] at c0
  replace ht := hid ht
  replace hn1 := hid hn1
  have hRd := hid hR.out.drew
  clear hva h0
  go_upto_region 6 with fail
  refine wp_region_held_drew (S := (fun w' => w'.cell? ⟨g, 0, none⟩ = some (.string t) ∧ Hid (RSt w w' ws g))) (by kernel_rfl) ⟨c0, hRd⟩ (fun hHeld => ?_)
  refine wpAnyH_take (i := 1) (oi := ({ dst := some 21, op := Op.move (Operand.tmp 4), type := 37, pos := "l05_code.go:259", after := #[], guard := none } : Oper)) (v := ?_) rfl (by kernel_rfl) (by kernel_rfl) (by kernel_rfl) (fun _ _ _ h => h) (Or.inl ⟨by rfl, ?_⟩) (by assumption) ?_
  rotate_left
  · intro w hSw
    (try dsimp only at hSw)
    go_simp
    (try with_reducible rfl)
  (try simp only [Act.put, List.setIfInBounds_toArray, List.set_cons_zero, List.set_cons_succ])
  refine wpAnyH_take (i := 2) (oi := ({ dst := some 22, op := Op.indexAddr 37 (Operand.tmp 21) (Operand.const (Value.int IntKind.i64 0)), type := 0, pos := "l05_code.go:259", after := #[{ on := 1, ground := Ground.data }], guard := none } : Oper)) (v := ?_) rfl (by kernel_rfl) (by kernel_rfl) (by kernel_rfl) (fun _ _ _ h => h) (Or.inl ⟨by rfl, ?_⟩) (by assumption) ?_
  rotate_left
  · intro w hSw
    (try dsimp only at hSw)
    go_simp
    (try with_reducible rfl)
  (try simp only [Act.put, List.setIfInBounds_toArray, List.set_cons_zero, List.set_cons_succ])
  refine wpAnyH_take (i := 3) (oi := ({ dst := some 23, op := Op.load 9 (Operand.tmp 22), type := 9, pos := "l05_code.go:259", after := #[{ on := 2, ground := Ground.data }], guard := none } : Oper)) (v := ?_) rfl (by kernel_rfl) (by kernel_rfl) (by kernel_rfl) (fun _ _ _ h => h) (Or.inl ⟨by rfl, ?_⟩) (by assumption) ?_
  rotate_left
  · intro w hSw
    (try dsimp only at hSw)
    go_simp
    (try with_reducible rfl)
  (try simp only [Act.put, List.setIfInBounds_toArray, List.set_cons_zero, List.set_cons_succ])
  refine wpAnyH_ready (rs := [0]) (by kernel_rfl) (by simp) ?_
  refine AllReadyH.cons (o := ({ dst := some 20, op := Op.call { callee := Callee.value (Operand.func 42), args := #[], argTypes := #[] }, type := 78, pos := "l05_code.go:259", after := #[], guard := none } : Oper)) rfl (fun K hK => ?_) AllReadyH.nil
  go_simp
  go_at_call 42
  refine (ops_impl _ (hKd.out.below hRd.out.bel)).mono ?_
  rintro e w2 ⟨rfl, hown, hb⟩
  have hR2 := hid (hRd.out.below hb)
  obtain ⟨c, ok, hrun0, hno, hyes⟩ := look_word hown htz.out
  have hrun : (Instr.lookup 78 (.map (some w1.heap.size)) (.string t) true).run Tryd.prog w2 = .ok (.tuple #[.int .i64 c, .bool ok]) w2 := hrun0
  clear hrun0
  have c2 := hR2.out.vc 0 (by have := hn1.out; omega)
  rw [ht.out] at c2
  clear hb hown
  go_wp2_with fail
  refine hK.out _ _ ⟨c2, hR2⟩ (fun hHeld => ?_)
  clear hK K
  (try simp only [Act.put, List.setIfInBounds_toArray, List.set_cons_zero, List.set_cons_succ])
  refine wpAnyH_ready (rs := [4]) (by kernel_rfl) (by simp) ?_
  refine AllReadyH.cons (o := ({ dst := some 24, op := Op.lookup 78 (Operand.tmp 20) (Operand.tmp 23) true, type := 77, pos := "l05_code.go:259", after := #[{ on := 0, ground := Ground.data }, { on := 3, ground := Ground.data }], guard := none } : Oper)) rfl (fun K hK => ?_) AllReadyH.nil
  go_simp
  go_wp2_with fail
  refine hK.out _ _ ⟨c2, hR2⟩ (fun hHeld => ?_)
  clear hK K
  (try simp only [Act.put, List.setIfInBounds_toArray, List.set_cons_zero, List.set_cons_succ])
  refine wpAnyH_take (i := 5) (oi := ({ dst := some 19, op := Op.move (Operand.tmp 24), type := 77, pos := "l05_code.go:259", after := #[{ on := 4, ground := Ground.data }], guard := none } : Oper)) (v := ?_) rfl (by kernel_rfl) (by kernel_rfl) (by kernel_rfl) (fun _ _ _ h => h) (Or.inl ⟨by rfl, ?_⟩) (by assumption) ?_
  rotate_left
  · intro w hSw
    (try dsimp only at hSw)
    go_simp
    (try with_reducible rfl)
  (try simp only [Act.put, List.setIfInBounds_toArray, List.set_cons_zero, List.set_cons_succ])
  refine wpAnyH_take (i := 6) (oi := ({ dst := some 25, op := Op.extract (Operand.tmp 19) 0, type := 3, pos := "l05_code.go:259", after := #[{ on := 5, ground := Ground.data }], guard := none } : Oper)) (v := ?_) rfl (by kernel_rfl) (by kernel_rfl) (by kernel_rfl) (fun _ _ _ h => h) (Or.inl ⟨by rfl, ?_⟩) (by assumption) ?_
  rotate_left
  · intro w hSw
    (try dsimp only at hSw)
    go_simp
    (try with_reducible rfl)
  (try simp only [Act.put, List.setIfInBounds_toArray, List.set_cons_zero, List.set_cons_succ])
  refine wpAnyH_take (i := 7) (oi := ({ dst := some 26, op := Op.extract (Operand.tmp 19) 1, type := 4, pos := "l05_code.go:259", after := #[{ on := 5, ground := Ground.data }, { on := 8, ground := Ground.gcOnly Departure.lateStores }], guard := none } : Oper)) (v := ?_) rfl (by kernel_rfl) (by kernel_rfl) (by kernel_rfl) (fun _ _ _ h => h) (Or.inl ⟨by rfl, ?_⟩) (by assumption) ?_
  rotate_left
  · intro w hSw
    (try dsimp only at hSw)
    go_simp
    (try with_reducible rfl)
  (try simp only [Act.put, List.setIfInBounds_toArray, List.set_cons_zero, List.set_cons_succ])
  refine wpAnyH_take (i := 8) (oi := ({ dst := some 5, op := Op.assign (Operand.tmp 25), type := 3, pos := "l05_code.go:259", after := #[{ on := 6, ground := Ground.data }, { on := 0, ground := Ground.chain }, { on := 0, ground := Ground.phase }, { on := 1, ground := Ground.phase }, { on := 2, ground := Ground.phase }, { on := 3, ground := Ground.phase }, { on := 4, ground := Ground.phase }, { on := 5, ground := Ground.phase }, { on := 6, ground := Ground.phase }, { on := 7, ground := Ground.textOnly Departure.lateStores }], guard := none } : Oper)) (v := ?_) rfl (by kernel_rfl) (by kernel_rfl) (by kernel_rfl) (fun _ _ _ h => h) (Or.inl ⟨by rfl, ?_⟩) (by assumption) ?_
  rotate_left
  · intro w hSw
    (try dsimp only at hSw)
    go_simp
    (try with_reducible rfl)
  (try simp only [Act.put, List.setIfInBounds_toArray, List.set_cons_zero, List.set_cons_succ])
  refine wpAnyH_take (i := 9) (oi := ({ dst := some 6, op := Op.assign (Operand.tmp 26), type := 4, pos := "l05_code.go:259", after := #[{ on := 7, ground := Ground.data }, { on := 8, ground := Ground.chain }, { on := 0, ground := Ground.phase }, { on := 1, ground := Ground.phase }, { on := 2, ground := Ground.phase }, { on := 3, ground := Ground.phase }, { on := 4, ground := Ground.phase }, { on := 5, ground := Ground.phase }, { on := 6, ground := Ground.phase }, { on := 7, ground := Ground.phase }, { on := 8, ground := Ground.phase }], guard := none } : Oper)) (v := ?_) rfl (by kernel_rfl) (by kernel_rfl) (by kernel_rfl) (fun _ _ _ h => h) (Or.inl ⟨by rfl, ?_⟩) (by assumption) ?_
  rotate_left
  · intro w hSw
    (try dsimp only at hSw)
    go_simp
    (try with_reducible rfl)
  (try simp only [Act.put, List.setIfInBounds_toArray, List.set_cons_zero, List.set_cons_succ])
  refine wpAnyH_done (by kernel_rfl) ?_ _
  clear c0 c2 hrun hRd hR
  by_cases hop : ∃ k, k < 24 ∧ kdW k = t
  rotate_left
  · have hE := hid (hNo.out (fun k hk => hop ⟨k, hk.1, by rw [← ht.out]; exact hk.2.2.1.symm⟩))
    rw [hno (fun k hk e => hop ⟨k, hk, e⟩)]
    have x0 := hR2.out.q.cell
    have f0 := hR2.out.q.frozen
    have z0 := hR2.out.q.lt
    have b0 := hid hR2.out.bel
    clear hop hno hyes
    go_wp2
    refine bodyPost_ret (v := .tuple #[insV 0 0 0 0 0, .int .i64 3]) (by simp [results, Tryd.results16, go_sem, x0]) rfl ⟨hE.out, ?_⟩
    iterate 5 refine Below.setCell ?_ (by first | omega | (simp; done) | (simp; omega)) _
    exact b0.out
  obtain ⟨k, hk, hkt⟩ := hop
  obtain ⟨eok, ec⟩ := hyes k hk hkt
  rw [eok, ec]
  have hkw := hid (ht.out.trans hkt.symm)
  clear hno hyes eok ec hkt
  have hbad : Hid (¬ WnOK ws k → RdE s (.returned (.tuple #[insV 0 0 0 0 0, .int .i64 3]))) := fun hw => hNo.out (fun j hj => by obtain rfl := hj.op hk hkw.out; exact hw ⟨hj.2.2.2.1, hj.2.2.2.2.1⟩)
  have hnok : Hid (okI (k : Int) (insN k ws (offL k)).1 (insN k ws (offL k)).2.1 (insN k ws (offL k)).2.2 (lenM (kdN k)) = false → RdE s (.returned (.tuple #[insV 0 0 0 0 0, .int .i64 3]))) := fun hw => hNo.out (fun j hj => by obtain rfl := hj.op hk hkw.out; have := hj.2.2.2.2.2; rw [hw] at this; cases this)
  have hgood : Hid (WnOK ws k → okI (k : Int) (insN k ws (offL k)).1 (insN k ws (offL k)).2.1 (insN k ws (offL k)).2.2 (lenM (kdN k)) = true → RdE s (.returned (.tuple #[insY k ws, .int .i64 0]))) := fun hw ho => hYes.out k ⟨hk, by have := hn1.out; omega, hkw.out, hw.1, hw.2, ho⟩
  clear hNo hYes
  go_wp2_with fail
  all_goals
    refine (with_impl k ws g (n1 - 1) _ _ _ (hKd.out.below hR2.out.bel) hk (by have := hn1.out; omega) (fun hm => by first | rfl | (exfalso; omega)) (by omega) (fun i => by have := hsz.out i; omega) hR2.out.vc).mono ?_
    rintro e w3 ⟨he, hb⟩
    have hR3 := hid (hR2.out.below hb)
    clear hb hR2
    rcases he with ⟨hOK, he⟩ | ⟨hOK, a, b, n, he⟩
    rotate_left
    · have hE := hid (hbad.out hOK)
      rw [he]
      generalize lenM (kdN k) = l at *
      have x0 := hR3.out.q.cell
      have f0 := hR3.out.q.frozen
      have z0 := hR3.out.q.lt
      have b0 := hid hR3.out.bel
      clear he hOK hbad hgood hnok hR3
      go_wp2
      refine bodyPost_ret (v := .tuple #[insV 0 0 0 0 0, .int .i64 3]) (by simp [results, Tryd.results16, go_sem, x0, z0]) rfl ⟨hE.out, ?_⟩
      refine (fun h => Below.alloc h h.size _) ?_
      iterate 5 refine Below.setCell ?_ (by first | omega | (simp; done) | (simp; omega)) _
      exact b0.out
    have hgood2 := hid (hgood.out hOK)
    rw [he]
    clear he hOK hbad hgood
    obtain ⟨a, ha⟩ : ∃ x, (insN k ws (offL k)).1 = x := ⟨_, rfl⟩
    obtain ⟨b, hb⟩ : ∃ x, (insN k ws (offL k)).2.1 = x := ⟨_, rfl⟩
    obtain ⟨n, hn⟩ : ∃ x, (insN k ws (offL k)).2.2 = x := ⟨_, rfl⟩
    obtain ⟨l, hl⟩ : ∃ x, lenM (kdN k) = x := ⟨_, rfl⟩
    unfold insY at hgood2 ⊢
    rw [ha, hb, hn, hl] at hgood2 hnok ⊢
    clear ha hb hn hl
    have hkd3 := hid (hKd.out.below hR3.out.bel)
    have hz3 := hR3.out.q.lt
    have hx3 := hid (Blk.new w3 (insA (k : Int) a b n l) 24)
    go_wp2_with fail
    refine (insok_impl _ _ _ _ _ _ (hkd3.out.below ((Below.refl _ _).alloc (Nat.le_refl _) _))).mono ?_
    rintro e w4 ⟨rfl, hb⟩
    have hR4 := hid ((hR3.out.alloc _).below hb)
    have hx4 := hx3.out.below hb hx3.out.lt
    have x4 := hx4.cell
    have z4 := hx4.lt
    have x0 := hR4.out.q.cell
    have f0 := hR4.out.q.frozen
    have z0 := hR4.out.q.lt
    have b0 := hid hR4.out.bel
    clear hb hx4 hx3 hR3 hR4 hkd3
    cases hr : okI (k : Int) a b n l
    · have hE := hid (hnok.out hr)
      clear hnok hgood2
      go_wp2
      refine bodyPost_ret (v := .tuple #[insV 0 0 0 0 0, .int .i64 3]) (by simp [results, Tryd.results16, go_sem, x0]) rfl ⟨hE.out, ?_⟩
      iterate 5 refine Below.setCell ?_ (by first | omega | (simp; done) | (simp; omega)) _
      exact b0.out
    · have hE := hid (hgood2.out hr)
      clear hnok hgood2
      go_wp2
      refine bodyPost_ret (v := .tuple #[insV (k : Int) a b n l, .int .i64 0]) (by simp [results, Tryd.results16, go_sem, x0]) rfl ⟨hE.out, ?_⟩
      iterate 5 refine Below.setCell ?_ (by first | omega | (simp; done) | (simp; omega)) _
      exact b0.out
end Go.Proofs.YtneagomkohoceaaDoor
