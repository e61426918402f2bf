/- PortValue, both sides; its law's drawn statement. -/
import Derived.Test.YtifcdojaocndhaaDoorS32
import Derived.Test.YtifcdojaocndhaaDoorS45
namespace Go.Proofs.YtifcdojaocndhaaDoor
open Go.ChangeShapes Go.WideShapes Go.ChangeAt Go.RowKit
set_option linter.unusedVariables false
set_option linter.unusedSimpArgs false

theorem laid_twoM {P : Program} {n : String} {d : DataW Unit} {r : List (String × DataW Unit)} {w : World} (h : laidMet P ((n, d) :: r) w) : laidMet P [(n, d)] w ∧ laidMet P r w := by
  obtain ⟨ps, ⟨g, t, cs, fuel, p, q, h1, h2, h3, h4, h5, rfl⟩, hnd, hc⟩ := h
  have hs := List.nodup_append.1 hnd
  refine ⟨⟨MemPlace.row ⟨g, 0, none⟩ cs.size ++ p ++ [], ⟨g, t, cs, fuel, p, [], h1, h2, h3, h4, rfl, rfl⟩, by rw [List.append_nil]; exact hs.1, fun b off hm => hc b off (List.mem_append.2 (.inl (by rwa [List.append_nil] at hm)))⟩, ⟨q, h5, hs.2.1, fun b off hm => hc b off (List.mem_append.2 (.inr hm))⟩⟩
theorem vars2_form {H : Type} {enc : TypeId × Value → H} {P : Program} {w : World} {sp : Nat → Bool} {n m : String} {gs : List (DataW H)} {ps : List MemPlace} (h : DataW.TrodVars enc P w sp [n, m] gs ps) : ∃ a b, gs = [a, b] := by
  match gs, h with
  | [], h => exact h.elim
  | a :: gs, ⟨_, _, _, _, _, _, _, _, _, _, h, _⟩ =>
    obtain ⟨b, rfl⟩ := vars1_form h
    exact ⟨a, b, rfl⟩
def pv2 (x : Mc) (n : Int) : Int × Int := if okMc x = true then (if inB n 0 255 = true then (portM x n.toNat, 0) else (0, 4)) else (0, 1)
set_option maxRecDepth 100000 in
set_option maxHeartbeats 4000000 in
theorem portv_spec {p : Nat → Bool} (x : Mc) (v : Value) (n : Int) (w : World) (h : MacR p w v x) (hf : FitMc x) : Calls Tryd.prog 23 #[v, .int .i64 n] w fun r w' => r = .returned (.tuple #[.int .i64 (pv2 x n).1, .int .i64 (pv2 x n).2]) ∧ Below w.heap.size w w' := by
  obtain ⟨vr, vm, vd, ve, rfl, hm, hd, he⟩ := h
  have hL := hid (MLk.start hm (RowR.mono hd (veil_le w p)) he.unveil 41)
  have hO := hid (fun W (hq : MLk w W x vr vm vd ve) => lmok_spec (p := fun _ => false) x (mcV x vr vm vd ve) W ⟨vr, vm, vd, ve, rfl, hq.m, hq.d.mono (fun b i u hu => by rw [veil_cell]; exact hu), hq.e.mono (fun b i u hu => by rw [veil_cell]; exact hu)⟩ hf)
  have hN := hid (fun (k : Nat) (hk : k < 256) (hw : okMc x = true) W (hq : MLk w W x vr vm vd ve) => lport_spec (p := fun _ => false) x (mcV x vr vm vd ve) k W ⟨vr, vm, vd, ve, rfl, hq.m, hq.d.mono (fun b i u hu => by rw [veil_cell]; exact hu), hq.e.mono (fun b i u hu => by rw [veil_cell]; exact hu)⟩ ((okMc_iff x).1 hw).1 ((okMc_iff x).1 hw).2.1 hk)
  replace hf := hid hf
  clear hm hd he
  cases hok : okMc x
  · have e : pv2 x n = (0, 1) := by unfold pv2; rw [if_neg (by rw [hok]; decide)]
    rw [e]
    rw [hok] at hO
    clear e hN
    go_enter Tryd.func23, Tryd.ntmps23
    go_upto_region 1 with fail
    obtain ⟨V, hV⟩ : ∃ V, w.alloc (Obj.cells (mcA x vr vm vd ve) 41) = V := ⟨_, rfl⟩
    rw [hV] at hL ⊢
    clear hV
    have x1 := hid (mc_all hL.out.q)
    go_wp2_with (refine wpList_load_mid rfl 41 _ rfl w.heap.size 0 rfl (mcA x vr vm vd ve).toList _ x1.out Tryd.underlying41 rfl (szMc _ _ _ _ _) ?_)
    refine (hO.out _ hL.out).mono ?_
    rintro r w1 ⟨rfl, hb⟩
    have hL := hid (hL.out.below hb)
    clear hb x1 hO
    go_wp2
    go_ret2
    exact ⟨rfl, hL.out.bel⟩
  cases hin : inB n 0 255
  · have e : pv2 x n = (0, 4) := by unfold pv2; rw [if_pos hok, if_neg (by rw [hin]; decide)]
    rw [e]
    rw [hok] at hO
    clear e hN
    go_enter Tryd.func23, Tryd.ntmps23
    go_upto_region 1 with fail
    obtain ⟨V, hV⟩ : ∃ V, w.alloc (Obj.cells (mcA x vr vm vd ve) 41) = V := ⟨_, rfl⟩
    rw [hV] at hL ⊢
    clear hV
    have x1 := hid (mc_all hL.out.q)
    go_wp2_with (refine wpList_load_mid rfl 41 _ rfl w.heap.size 0 rfl (mcA x vr vm vd ve).toList _ x1.out Tryd.underlying41 rfl (szMc _ _ _ _ _) ?_)
    refine (hO.out _ hL.out).mono ?_
    rintro r w1 ⟨rfl, hb⟩
    have hL := hid (hL.out.below hb)
    clear hb x1 hO
    go_wp2_with (refine (byteM_spec _ _).mono ?_; rintro r w2 ⟨rfl, rfl⟩; rw [hin])
    go_ret2
    exact ⟨rfl, hL.out.bel⟩
  · obtain ⟨k, rfl, hk⟩ := inByte hin
    have e : pv2 x (k : Int) = (portM x k, 0) := by unfold pv2; rw [if_pos hok, if_pos hin, Int.toNat_natCast]
    have hN := hid (hN.out k hk hok)
    rw [e]
    rw [hok] at hO
    clear e
    generalize portM x k = Z at *
    go_enter Tryd.func23, Tryd.ntmps23
    go_upto_region 1 with fail
    obtain ⟨V, hV⟩ : ∃ V, w.alloc (Obj.cells (mcA x vr vm vd ve) 41) = V := ⟨_, rfl⟩
    rw [hV] at hL ⊢
    clear hV
    have x1 := hid (mc_all hL.out.q)
    go_wp2_with (refine wpList_load_mid rfl 41 _ rfl w.heap.size 0 rfl (mcA x vr vm vd ve).toList _ x1.out Tryd.underlying41 rfl (szMc _ _ _ _ _) ?_)
    refine (hO.out _ hL.out).mono ?_
    rintro r w1 ⟨rfl, hb⟩
    have hL := hid (hL.out.below hb)
    clear hb x1 hO
    have x1 := hid (mc_all hL.out.q)
    go_wp2_with (first | (go_at_call 66; refine (byteM_spec _ _).mono ?_; rintro r w2 ⟨rfl, rfl⟩; rw [hin]) | (refine wpList_load_mid rfl 41 _ rfl w.heap.size 0 rfl (mcA x vr vm vd ve).toList _ x1.out Tryd.underlying41 rfl (szMc _ _ _ _ _) ?_))
    refine (hN.out _ hL.out).mono ?_
    rintro r w2 ⟨rfl, hb⟩
    have hB := hid (new_trans hL.out.bel hb)
    clear hb x1 hN
    go_wp2
    go_ret2
    exact ⟨rfl, hB.out⟩
set_option maxRecDepth 100000 in
set_option maxHeartbeats 4000000 in
theorem portv_impl {p : Nat → Bool} (x : Mc) (v : Value) (n : Int) (w : World) (h : MacR p w v x) (hf : FitMc x) (hP : PBit w) (hF : FPat w) : Calls Tryd.prog 24 #[v, .int .i64 n] w fun r w' => r = .returned (.tuple #[.int .i64 (pv2 x n).1, .int .i64 (pv2 x n).2]) ∧ Below w.heap.size w w' := by
  obtain ⟨vr, vm, vd, ve, rfl, hm, hd, he⟩ := h
  have hL := hid (MLk.start hm (RowR.mono hd (veil_le w p)) he.unveil 41)
  have hO := hid (fun W (hq : MLk w W x vr vm vd ve) => isrightM_impl (p := fun _ => false) x (mcV x vr vm vd ve) W ⟨vr, vm, vd, ve, rfl, hq.m, hq.d.mono (fun b i u hu => by rw [veil_cell]; exact hu), hq.e.mono (fun b i u hu => by rw [veil_cell]; exact hu)⟩ hf (PBit.below hP hq.bel))
  have hN := hid (fun (k : Nat) (hk : k < 256) (hw : okMc x = true) W (hq : MLk w W x vr vm vd ve) => port_implM (p := fun _ => false) x (mcV x vr vm vd ve) k W ⟨vr, vm, vd, ve, rfl, hq.m, hq.d.mono (fun b i u hu => by rw [veil_cell]; exact hu), hq.e.mono (fun b i u hu => by rw [veil_cell]; exact hu)⟩ ((okMc_iff x).1 hw).1 ((okMc_iff x).1 hw).2.1 hk (PBit.below hP hq.bel) (fpat_below hF hq.bel))
  replace hf := hid hf
  clear hm hd he
  cases hok : okMc x
  · have e : pv2 x n = (0, 1) := by unfold pv2; rw [if_neg (by rw [hok]; decide)]
    rw [e]
    rw [hok] at hO
    clear e hN
    go_enter Tryd.func24, Tryd.ntmps24
    go_upto_region 1 with fail
    obtain ⟨V, hV⟩ : ∃ V, w.alloc (Obj.cells (mcA x vr vm vd ve) 41) = V := ⟨_, rfl⟩
    rw [hV] at hL ⊢
    clear hV
    have x1 := hid (mc_all hL.out.q)
    go_wp2_with (refine wpList_load_mid rfl 41 _ rfl w.heap.size 0 rfl (mcA x vr vm vd ve).toList _ x1.out Tryd.underlying41 rfl (szMc _ _ _ _ _) ?_)
    refine (hO.out _ hL.out).mono ?_
    rintro r w1 ⟨rfl, hb⟩
    have hL := hid (hL.out.below hb)
    clear hb x1 hO
    go_wp2
    go_ret2
    exact ⟨rfl, hL.out.bel⟩
  cases hin : inB n 0 255
  · have e : pv2 x n = (0, 4) := by unfold pv2; rw [if_pos hok, if_neg (by rw [hin]; decide)]
    rw [e]
    rw [hok] at hO
    clear e hN
    go_enter Tryd.func24, Tryd.ntmps24
    go_upto_region 1 with fail
    obtain ⟨V, hV⟩ : ∃ V, w.alloc (Obj.cells (mcA x vr vm vd ve) 41) = V := ⟨_, rfl⟩
    rw [hV] at hL ⊢
    clear hV
    have x1 := hid (mc_all hL.out.q)
    go_wp2_with (refine wpList_load_mid rfl 41 _ rfl w.heap.size 0 rfl (mcA x vr vm vd ve).toList _ x1.out Tryd.underlying41 rfl (szMc _ _ _ _ _) ?_)
    refine (hO.out _ hL.out).mono ?_
    rintro r w1 ⟨rfl, hb⟩
    have hL := hid (hL.out.below hb)
    clear hb x1 hO
    go_wp2_with (refine (isbP_impl _ _).mono ?_; rintro r w2 ⟨rfl, rfl⟩; rw [hin])
    go_ret2
    exact ⟨rfl, hL.out.bel⟩
  · obtain ⟨k, rfl, hk⟩ := inByte hin
    have e : pv2 x (k : Int) = (portM x k, 0) := by unfold pv2; rw [if_pos hok, if_pos hin, Int.toNat_natCast]
    have hN := hid (hN.out k hk hok)
    rw [e]
    rw [hok] at hO
    clear e
    generalize portM x k = Z at *
    go_enter Tryd.func24, Tryd.ntmps24
    go_upto_region 1 with fail
    obtain ⟨V, hV⟩ : ∃ V, w.alloc (Obj.cells (mcA x vr vm vd ve) 41) = V := ⟨_, rfl⟩
    rw [hV] at hL ⊢
    clear hV
    have x1 := hid (mc_all hL.out.q)
    go_wp2_with (refine wpList_load_mid rfl 41 _ rfl w.heap.size 0 rfl (mcA x vr vm vd ve).toList _ x1.out Tryd.underlying41 rfl (szMc _ _ _ _ _) ?_)
    refine (hO.out _ hL.out).mono ?_
    rintro r w1 ⟨rfl, hb⟩
    have hL := hid (hL.out.below hb)
    clear hb x1 hO
    have x1 := hid (mc_all hL.out.q)
    go_wp2_with (first | (go_at_call 68; refine (isbP_impl _ _).mono ?_; rintro r w2 ⟨rfl, rfl⟩; rw [hin]) | (refine wpList_load_mid rfl 41 _ rfl w.heap.size 0 rfl (mcA x vr vm vd ve).toList _ x1.out Tryd.underlying41 rfl (szMc _ _ _ _ _) ?_))
    refine (hN.out _ hL.out).mono ?_
    rintro r w2 ⟨rfl, hb⟩
    have hB := hid (new_trans hL.out.bel hb)
    clear hb x1 hN
    go_wp2
    go_ret2
    exact ⟨rfl, hB.out⟩
theorem port2_of {W : World} (h : laidMetH Tryd.prog [("loop.example/g00644/impl.fetchPattern", Rows.laid_loop_example_g00644_impl_fetchPattern), ("loop.example/g00644/impl.psgBits", Rows.laid_loop_example_g00644_impl_psgBits)] W) : PBit W ∧ FPat W := by
  rw [MakeChecks.laidMetH_plain _ _ _ (by kernel_rfl)] at h
  obtain ⟨h0, h1⟩ := laid_twoM h
  exact ⟨pbit_of (by rw [MakeChecks.laidMetH_plain _ _ _ (by kernel_rfl)]; exact h1), fpat_of (by rw [MakeChecks.laidMetH_plain _ _ _ (by kernel_rfl)]; exact h0)⟩
def w2f_V (bX bA : Nat) (x : Mc) (ur um ud ue vr vm vd ve : Value) : Nat → Value → Value := fun i e => match i with
  | 0 => (.agg (mcA x ur um ud ue))
  | 1 => (.agg (mcA x vr vm vd ve))
  | 2 => e
  | 3 => .bool true
  | 4 => .bool false
  | _ => undef
def w2f_J (w1 : World) (bX bA : Nat) (x : Mc) (ur um ud ue vr vm vd ve : Value) (f : Nat → Bool) (e : Value) (w : World) : Prop :=
  Below w1.heap.size w1 w ∧ (f 2 = true → MacB w e x)
def w2f_o0 : Oper := ({ dst := some 39, op := Op.load 41 (Operand.tmp 8), type := 41, pos := "exact.go:3165", after := #[], guard := none } : Oper)
def w2f_o1 : Oper := ({ dst := some 40, op := Op.load 58 (Operand.tmp 2), type := 58, pos := "exact.go:3165", after := #[], guard := none } : Oper)
def w2f_o2 : Oper := ({ dst := some 41, op := Op.call { callee := Callee.value (Operand.func 19), args := #[Operand.tmp 40], argTypes := #[58] }, type := 41, pos := "exact.go:3165", after := #[{ on := 1, ground := Ground.data }], guard := none } : Oper)
def w2f_o3 : Oper := ({ dst := some 42, op := Op.call { callee := Callee.value (Operand.func 11), args := #[Operand.tmp 39, Operand.tmp 41], argTypes := #[41, 41] }, type := 4, pos := "exact.go:3165", after := #[{ on := 0, ground := Ground.data }, { on := 2, ground := Ground.data }, { on := 2, ground := Ground.chain }], guard := none } : Oper)
def w2f_o4 : Oper := ({ dst := some 43, op := Op.unOp UnOp.not 4 (Operand.tmp 42), type := 4, pos := "exact.go:3165", after := #[{ on := 3, ground := Ground.data }], guard := none } : Oper)
def w2f_O : Array Oper := #[w2f_o0, w2f_o1, w2f_o2, w2f_o3, w2f_o4]
theorem w2f_no {s : Nat} (h : ([39, 40, 41, 42, 43] : List Nat).contains s = false) : ∀ i, dstAt w2f_O i ≠ some s := by
  intro i hi
  have hl : i < 5 := by
    rcases Nat.lt_or_ge i 5 with h1 | h1
    · exact h1
    · unfold dstAt at hi
      rw [Array.getElem?_eq_none (by exact h1)] at hi
      cases hi
  rcases (by omega : i = 0 ∨ i = 1 ∨ i = 2 ∨ i = 3 ∨ i = 4) with rfl | rfl | rfl | rfl | rfl
  all_goals first
    | (cases hi; simp at h)
    | cases hi
theorem w2f_keep (bX bA : Nat) (x : Mc) (ur um ud ue vr vm vd ve : Value) {f : Nat → Bool} (e : Value) (u : Value) (hn : f 2 = false) : ∀ j, f j = true → w2f_V bX bA x ur um ud ue vr vm vd ve j u = w2f_V bX bA x ur um ud ue vr vm vd ve j e := by
  intro j hj
  unfold w2f_V
  split
  · rfl
  · rfl
  · rw [hn] at hj; cases hj
  · rfl
  · rfl
  · rfl
set_option maxRecDepth 100000 in
set_option maxHeartbeats 2000000 in
theorem w2f_s0 (A : Act) (w1 : World) (Q : Exit → Act → World → Prop) (bX bA : Nat) (x : Mc) (ur um ud ue vr vm vd ve : Value) 
    (hx : A.tmps.getD 8 undef = .pointer (some ⟨bX, 0, none⟩)) (ha : A.tmps.getD 2 undef = .pointer (some ⟨bA, 0, none⟩)) (qX : Blk w1 bX (mcA x ur um ud ue)) (qA : Blk w1 bA (mcA x vr vm vd ve)) (hT : ∀ W, Below w1.heap.size w1 W → Calls Tryd.prog 19 #[.agg (mcA x vr vm vd ve)] W fun r w' => ∃ v, r = .returned v ∧ MacB w' v x ∧ Below W.heap.size W w') (hE : ∀ W v, Below w1.heap.size w1 W → MacB W v x → Calls Tryd.prog 11 #[.agg (mcA x ur um ud ue), v] W fun r w' => r = .returned (.bool true) ∧ Below W.heap.size W w')
    (f : Nat → Bool) (e : Value) (a : Act) (w : World) (hun : f 0 = false) (hdep : ∀ d ∈ w2f_o0.after, Region.binds .any d = true → f d.on = true) (hJ : w2f_J w1 bX bA x ur um ud ue vr vm vd ve f e w) (hFr : Fr w2f_O A f (fun j => w2f_V bX bA x ur um ud ue vr vm vd ve j e) a)
    (K : Act → World → Prop) (hK : Hid (∀ v e' w', v = w2f_V bX bA x ur um ud ue vr vm vd ve 0 e' → (∀ j, f j = true → w2f_V bX bA x ur um ud ue vr vm vd ve j e' = w2f_V bX bA x ur um ud ue vr vm vd ve j e) → w2f_J w1 bX bA x ur um ud ue vr vm vd ve (fun j => j == 0 || f j) e' w' → K (a.put w2f_o0.dst v) w')) :
    if Region.wanted w2f_o0 (yielded w2f_O a.tmps) = true then Oper.wp Tryd.prog w2f_o0 a w K Q else K (a.put w2f_o0.dst undef) w := by
  unfold w2f_o0 at hdep hK ⊢
  have hK9 := hK
  obtain ⟨hB, j2⟩ := hJ
  have v8 := (hFr.old 8 (w2f_no (by decide))).trans hx
  have x0 := mc_all (qX.below hB qX.lt)
  rw [if_pos (show Region.wanted _ _ = true from rfl)]
  refine wp_load_mid 41 _ rfl bX 0 v8 (mcA x ur um ud ue).toList _ x0 Tryd.underlying41 rfl (szMc _ _ _ _ _) ?_
  exact hK9.out _ e _ rfl (fun _ _ => rfl) ⟨hB, j2⟩
set_option maxRecDepth 100000 in
set_option maxHeartbeats 2000000 in
theorem w2f_s1 (A : Act) (w1 : World) (Q : Exit → Act → World → Prop) (bX bA : Nat) (x : Mc) (ur um ud ue vr vm vd ve : Value) 
    (hx : A.tmps.getD 8 undef = .pointer (some ⟨bX, 0, none⟩)) (ha : A.tmps.getD 2 undef = .pointer (some ⟨bA, 0, none⟩)) (qX : Blk w1 bX (mcA x ur um ud ue)) (qA : Blk w1 bA (mcA x vr vm vd ve)) (hT : ∀ W, Below w1.heap.size w1 W → Calls Tryd.prog 19 #[.agg (mcA x vr vm vd ve)] W fun r w' => ∃ v, r = .returned v ∧ MacB w' v x ∧ Below W.heap.size W w') (hE : ∀ W v, Below w1.heap.size w1 W → MacB W v x → Calls Tryd.prog 11 #[.agg (mcA x ur um ud ue), v] W fun r w' => r = .returned (.bool true) ∧ Below W.heap.size W w')
    (f : Nat → Bool) (e : Value) (a : Act) (w : World) (hun : f 1 = false) (hdep : ∀ d ∈ w2f_o1.after, Region.binds .any d = true → f d.on = true) (hJ : w2f_J w1 bX bA x ur um ud ue vr vm vd ve f e w) (hFr : Fr w2f_O A f (fun j => w2f_V bX bA x ur um ud ue vr vm vd ve j e) a)
    (K : Act → World → Prop) (hK : Hid (∀ v e' w', v = w2f_V bX bA x ur um ud ue vr vm vd ve 1 e' → (∀ j, f j = true → w2f_V bX bA x ur um ud ue vr vm vd ve j e' = w2f_V bX bA x ur um ud ue vr vm vd ve j e) → w2f_J w1 bX bA x ur um ud ue vr vm vd ve (fun j => j == 1 || f j) e' w' → K (a.put w2f_o1.dst v) w')) :
    if Region.wanted w2f_o1 (yielded w2f_O a.tmps) = true then Oper.wp Tryd.prog w2f_o1 a w K Q else K (a.put w2f_o1.dst undef) w := by
  unfold w2f_o1 at hdep hK ⊢
  have hK9 := hK
  obtain ⟨hB, j2⟩ := hJ
  have v2 := (hFr.old 2 (w2f_no (by decide))).trans ha
  have x0 := mc_all (qA.below hB qA.lt)
  rw [if_pos (show Region.wanted _ _ = true from rfl)]
  refine wp_load_mid 58 _ rfl bA 0 v2 (mcA x vr vm vd ve).toList _ x0 Tryd.underlying58 rfl (szLMc _ _ _ _ _) ?_
  exact hK9.out _ e _ rfl (fun _ _ => rfl) ⟨hB, j2⟩
set_option maxRecDepth 100000 in
set_option maxHeartbeats 2000000 in
theorem w2f_s2 (A : Act) (w1 : World) (Q : Exit → Act → World → Prop) (bX bA : Nat) (x : Mc) (ur um ud ue vr vm vd ve : Value) 
    (hx : A.tmps.getD 8 undef = .pointer (some ⟨bX, 0, none⟩)) (ha : A.tmps.getD 2 undef = .pointer (some ⟨bA, 0, none⟩)) (qX : Blk w1 bX (mcA x ur um ud ue)) (qA : Blk w1 bA (mcA x vr vm vd ve)) (hT : ∀ W, Below w1.heap.size w1 W → Calls Tryd.prog 19 #[.agg (mcA x vr vm vd ve)] W fun r w' => ∃ v, r = .returned v ∧ MacB w' v x ∧ Below W.heap.size W w') (hE : ∀ W v, Below w1.heap.size w1 W → MacB W v x → Calls Tryd.prog 11 #[.agg (mcA x ur um ud ue), v] W fun r w' => r = .returned (.bool true) ∧ Below W.heap.size W w')
    (f : Nat → Bool) (e : Value) (a : Act) (w : World) (hun : f 2 = false) (hdep : ∀ d ∈ w2f_o2.after, Region.binds .any d = true → f d.on = true) (hJ : w2f_J w1 bX bA x ur um ud ue vr vm vd ve f e w) (hFr : Fr w2f_O A f (fun j => w2f_V bX bA x ur um ud ue vr vm vd ve j e) a)
    (K : Act → World → Prop) (hK : Hid (∀ v e' w', v = w2f_V bX bA x ur um ud ue vr vm vd ve 2 e' → (∀ j, f j = true → w2f_V bX bA x ur um ud ue vr vm vd ve j e' = w2f_V bX bA x ur um ud ue vr vm vd ve j e) → w2f_J w1 bX bA x ur um ud ue vr vm vd ve (fun j => j == 2 || f j) e' w' → K (a.put w2f_o2.dst v) w')) :
    if Region.wanted w2f_o2 (yielded w2f_O a.tmps) = true then Oper.wp Tryd.prog w2f_o2 a w K Q else K (a.put w2f_o2.dst undef) w := by
  unfold w2f_o2 at hdep hK ⊢
  have hK9 := hK
  obtain ⟨hB, j2⟩ := hJ
  have k1 : f 1 = true := hdep { on := 1, ground := .data } (by simp) rfl
  have v40 : a.tmps.getD 40 undef = (.agg (mcA x vr vm vd ve)) := hFr.new 1 40 rfl k1
  replace hB := hid hB
  replace j2 := hid j2
  replace hT := hid hT
  replace hE := hid hE
  replace qX := hid qX
  replace qA := hid qA
  clear hdep hFr hx ha
  go_simp
  go_at_call 19
  refine (hT.out w hB.out).mono ?_
  rintro r w' ⟨u, rfl, hm', hb'⟩
  replace hm' := hid hm'
  replace hb' := hid hb'
  go_simp
  exact hK9.out _ u _ rfl (w2f_keep bX bA x ur um ud ue vr vm vd ve e u hun) ⟨new_trans hB.out hb'.out, fun _ => hm'.out⟩
set_option maxRecDepth 100000 in
set_option maxHeartbeats 2000000 in
theorem w2f_s3 (A : Act) (w1 : World) (Q : Exit → Act → World → Prop) (bX bA : Nat) (x : Mc) (ur um ud ue vr vm vd ve : Value) 
    (hx : A.tmps.getD 8 undef = .pointer (some ⟨bX, 0, none⟩)) (ha : A.tmps.getD 2 undef = .pointer (some ⟨bA, 0, none⟩)) (qX : Blk w1 bX (mcA x ur um ud ue)) (qA : Blk w1 bA (mcA x vr vm vd ve)) (hT : ∀ W, Below w1.heap.size w1 W → Calls Tryd.prog 19 #[.agg (mcA x vr vm vd ve)] W fun r w' => ∃ v, r = .returned v ∧ MacB w' v x ∧ Below W.heap.size W w') (hE : ∀ W v, Below w1.heap.size w1 W → MacB W v x → Calls Tryd.prog 11 #[.agg (mcA x ur um ud ue), v] W fun r w' => r = .returned (.bool true) ∧ Below W.heap.size W w')
    (f : Nat → Bool) (e : Value) (a : Act) (w : World) (hun : f 3 = false) (hdep : ∀ d ∈ w2f_o3.after, Region.binds .any d = true → f d.on = true) (hJ : w2f_J w1 bX bA x ur um ud ue vr vm vd ve f e w) (hFr : Fr w2f_O A f (fun j => w2f_V bX bA x ur um ud ue vr vm vd ve j e) a)
    (K : Act → World → Prop) (hK : Hid (∀ v e' w', v = w2f_V bX bA x ur um ud ue vr vm vd ve 3 e' → (∀ j, f j = true → w2f_V bX bA x ur um ud ue vr vm vd ve j e' = w2f_V bX bA x ur um ud ue vr vm vd ve j e) → w2f_J w1 bX bA x ur um ud ue vr vm vd ve (fun j => j == 3 || f j) e' w' → K (a.put w2f_o3.dst v) w')) :
    if Region.wanted w2f_o3 (yielded w2f_O a.tmps) = true then Oper.wp Tryd.prog w2f_o3 a w K Q else K (a.put w2f_o3.dst undef) w := by
  unfold w2f_o3 at hdep hK ⊢
  have hK9 := hK
  obtain ⟨hB, j2⟩ := hJ
  have k0 : f 0 = true := hdep { on := 0, ground := .data } (by simp) rfl
  have v39 : a.tmps.getD 39 undef = (.agg (mcA x ur um ud ue)) := hFr.new 0 39 rfl k0
  have k2 : f 2 = true := hdep { on := 2, ground := .data } (by simp) rfl
  have v41 : a.tmps.getD 41 undef = e := hFr.new 2 41 rfl k2
  have r2 := hid (j2 k2)
  replace hB := hid hB
  replace j2 := hid j2
  replace hT := hid hT
  replace hE := hid hE
  replace qX := hid qX
  replace qA := hid qA
  clear hdep hFr hx ha
  go_simp
  go_at_call 11
  refine (hE.out w _ hB.out r2.out).mono ?_
  rintro r w' ⟨rfl, hb'⟩
  replace hb' := hid hb'
  go_simp
  exact hK9.out _ e _ rfl (fun _ _ => rfl) ⟨new_trans hB.out hb'.out, fun h => (j2.out h).below hb'.out⟩
set_option maxRecDepth 100000 in
set_option maxHeartbeats 2000000 in
theorem w2f_s4 (A : Act) (w1 : World) (Q : Exit → Act → World → Prop) (bX bA : Nat) (x : Mc) (ur um ud ue vr vm vd ve : Value) 
    (hx : A.tmps.getD 8 undef = .pointer (some ⟨bX, 0, none⟩)) (ha : A.tmps.getD 2 undef = .pointer (some ⟨bA, 0, none⟩)) (qX : Blk w1 bX (mcA x ur um ud ue)) (qA : Blk w1 bA (mcA x vr vm vd ve)) (hT : ∀ W, Below w1.heap.size w1 W → Calls Tryd.prog 19 #[.agg (mcA x vr vm vd ve)] W fun r w' => ∃ v, r = .returned v ∧ MacB w' v x ∧ Below W.heap.size W w') (hE : ∀ W v, Below w1.heap.size w1 W → MacB W v x → Calls Tryd.prog 11 #[.agg (mcA x ur um ud ue), v] W fun r w' => r = .returned (.bool true) ∧ Below W.heap.size W w')
    (f : Nat → Bool) (e : Value) (a : Act) (w : World) (hun : f 4 = false) (hdep : ∀ d ∈ w2f_o4.after, Region.binds .any d = true → f d.on = true) (hJ : w2f_J w1 bX bA x ur um ud ue vr vm vd ve f e w) (hFr : Fr w2f_O A f (fun j => w2f_V bX bA x ur um ud ue vr vm vd ve j e) a)
    (K : Act → World → Prop) (hK : Hid (∀ v e' w', v = w2f_V bX bA x ur um ud ue vr vm vd ve 4 e' → (∀ j, f j = true → w2f_V bX bA x ur um ud ue vr vm vd ve j e' = w2f_V bX bA x ur um ud ue vr vm vd ve j e) → w2f_J w1 bX bA x ur um ud ue vr vm vd ve (fun j => j == 4 || f j) e' w' → K (a.put w2f_o4.dst v) w')) :
    if Region.wanted w2f_o4 (yielded w2f_O a.tmps) = true then Oper.wp Tryd.prog w2f_o4 a w K Q else K (a.put w2f_o4.dst undef) w := by
  unfold w2f_o4 at hdep hK ⊢
  have hK9 := hK
  obtain ⟨hB, j2⟩ := hJ
  have k3 : f 3 = true := hdep { on := 3, ground := .data } (by simp) rfl
  have v42 : a.tmps.getD 42 undef = .bool true := hFr.new 3 42 rfl k3
  replace hB := hid hB
  replace j2 := hid j2
  replace hT := hid hT
  replace hE := hid hE
  replace qX := hid qX
  replace qA := hid qA
  clear hdep hFr hx ha
  go_simp
  exact hK9.out _ e _ rfl (fun _ _ => rfl) ⟨hB.out, j2.out⟩
set_option maxRecDepth 100000 in
set_option maxHeartbeats 4000000 in
theorem w2f_reg (A : Act) (w1 : World) (Q : Exit → Act → World → Prop) (bX bA : Nat) (x : Mc) (ur um ud ue vr vm vd ve : Value) 
    (hx : A.tmps.getD 8 undef = .pointer (some ⟨bX, 0, none⟩)) (ha : A.tmps.getD 2 undef = .pointer (some ⟨bA, 0, none⟩)) (qX : Blk w1 bX (mcA x ur um ud ue)) (qA : Blk w1 bA (mcA x vr vm vd ve)) (hT : ∀ W, Below w1.heap.size w1 W → Calls Tryd.prog 19 #[.agg (mcA x vr vm vd ve)] W fun r w' => ∃ v, r = .returned v ∧ MacB w' v x ∧ Below W.heap.size W w') (hE : ∀ W v, Below w1.heap.size w1 W → MacB W v x → Calls Tryd.prog 11 #[.agg (mcA x ur um ud ue), v] W fun r w' => r = .returned (.bool true) ∧ Below W.heap.size W w') (hN : 44 ≤ A.tmps.size)
    (h : ∀ (w : World) (e : Value), Below w1.heap.size w1 w → Q .normal (putsA A [(39, (.agg (mcA x ur um ud ue))), (40, (.agg (mcA x vr vm vd ve))), (41, e), (42, .bool true), (43, .bool false)]) w) :
    (Code.region 10 #[({ dst := some 39, op := Op.load 41 (Operand.tmp 8), type := 41, pos := "exact.go:3165", after := #[], guard := none } : Oper), ({ dst := some 40, op := Op.load 58 (Operand.tmp 2), type := 58, pos := "exact.go:3165", after := #[], guard := none } : Oper), ({ dst := some 41, op := Op.call { callee := Callee.value (Operand.func 19), args := #[Operand.tmp 40], argTypes := #[58] }, type := 41, pos := "exact.go:3165", after := #[{ on := 1, ground := Ground.data }], guard := none } : Oper), ({ dst := some 42, op := Op.call { callee := Callee.value (Operand.func 11), args := #[Operand.tmp 39, Operand.tmp 41], argTypes := #[41, 41] }, type := 4, pos := "exact.go:3165", after := #[{ on := 0, ground := Ground.data }, { on := 2, ground := Ground.data }, { on := 2, ground := Ground.chain }], guard := none } : Oper), ({ dst := some 43, op := Op.unOp UnOp.not 4 (Operand.tmp 42), type := 4, pos := "exact.go:3165", after := #[{ on := 3, ground := Ground.data }], guard := none } : Oper)] true).wp Tryd.prog Q A w1 := by
  show (Code.region 10 w2f_O true).wp Tryd.prog Q A w1
  refine wp_region_slots (E := Value) (w2f_V bX bA x ur um ud ue vr vm vd ve) (w2f_J w1 bX bA x ur um ud ue vr vm vd ve) (by kernel_rfl) (by kernel_rfl) (by kernel_rfl) (fun i s hi => ?_) ?_ undef ⟨(Below.refl _ _).drew, fun h => (by cases h)⟩ ?_
  · cases hc : ([39, 40, 41, 42, 43] : List Nat).contains s
    · exact absurd hi (w2f_no hc i)
    · have : s ∈ ([39, 40, 41, 42, 43] : List Nat) := by simpa using hc
      simp only [List.mem_cons, List.not_mem_nil, or_false] at this
      omega
  · intro f e a w i o hi ho hun hdep hJ hFr K hK
    have hi8 : i < 5 := hi
    rcases (by omega : i = 0 ∨ i = 1 ∨ i = 2 ∨ i = 3 ∨ i = 4) with rfl | rfl | rfl | rfl | rfl
    · obtain rfl := Option.some.inj ho
      exact w2f_s0 A w1 Q bX bA x ur um ud ue vr vm vd ve hx ha qX qA hT hE f e a w hun hdep hJ hFr K hK
    · obtain rfl := Option.some.inj ho
      exact w2f_s1 A w1 Q bX bA x ur um ud ue vr vm vd ve hx ha qX qA hT hE f e a w hun hdep hJ hFr K hK
    · obtain rfl := Option.some.inj ho
      exact w2f_s2 A w1 Q bX bA x ur um ud ue vr vm vd ve hx ha qX qA hT hE f e a w hun hdep hJ hFr K hK
    · obtain rfl := Option.some.inj ho
      exact w2f_s3 A w1 Q bX bA x ur um ud ue vr vm vd ve hx ha qX qA hT hE f e a w hun hdep hJ hFr K hK
    · obtain rfl := Option.some.inj ho
      exact w2f_s4 A w1 Q bX bA x ur um ud ue vr vm vd ve hx ha qX qA hT hE f e a w hun hdep hJ hFr K hK
  · intro f e a w hall hJ hFr
    have := h w e hJ.1
    rw [hFr.eq [(39, (.agg (mcA x ur um ud ue))), (40, (.agg (mcA x vr vm vd ve))), (41, e), (42, .bool true), (43, .bool false)] (fun s hs => ?_) (fun i s hi => ?_)]
    · exact this
    · have hne : ∀ k ∈ ([39, 40, 41, 42, 43] : List Nat), k ≠ s := by
        intro k hk e2
        subst e2
        simp only [List.mem_cons, List.not_mem_nil, or_false] at hk
        rcases hk with rfl | rfl | rfl | rfl | rfl
        · exact hs 0 rfl
        · exact hs 1 rfl
        · exact hs 2 rfl
        · exact hs 3 rfl
        · exact hs 4 rfl
      simp only [lookA]
      simp [hne]
    · have hl : i < 5 := by
        rcases Nat.lt_or_ge i 5 with h1 | h1
        · exact h1
        · unfold dstAt at hi
          rw [Array.getElem?_eq_none (by exact h1)] at hi
          cases hi
      refine ⟨hall i hl, ?_⟩
      rcases (by omega : i = 0 ∨ i = 1 ∨ i = 2 ∨ i = 3 ∨ i = 4) with rfl | rfl | rfl | rfl | rfl
      all_goals first
        | (cases hi; rfl)
        | cases hi
end Go.Proofs.YtifcdojaocndhaaDoor
