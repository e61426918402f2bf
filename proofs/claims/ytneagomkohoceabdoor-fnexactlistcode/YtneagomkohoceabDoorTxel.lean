/- An event's text: the program. -/
import Derived.Test.YtneagomkohoceabDoorTxbl
import Derived.Test.YtneagomkohoceabDoorTxdl
import Derived.Test.YtneagomkohoceabDoorL05
import Derived.Test.YtneagomkohoceabDoorL35
import Derived.LaidMore
import Derived.OpenShut
import Derived.Stop.Joined
import Derived.OpenVars
import Derived.MakeChecks
namespace Go.Proofs.YtneagomkohoceabDoor
open Go.ChangeShapes Go.WideShapes Go.ChangeAt Go.RowKit
set_option linter.unusedVariables false
set_option linter.unusedSimpArgs false

/-- a table of words, as the row lays it -/
theorem strs_reads {W : World} {nm : String} {g n : Nat} {ty : TypeId} {held : Bool} {cs : Array Value} {fuel : Nat} {p : List MemPlace} (zs : List (List UInt8)) (hz : zs.length = n) (hg : Tryd.prog.globalNamed nm = some g) (hu : Tryd.prog.underlying ty = some (.array n 9)) (c2 : Tryd.prog.cellsOf ty = n)
    (hv : World.var? Tryd.prog W nm = some cs) (h : DataW.trod (fun _ => ()) Tryd.prog W 0 (fun _ => true) held fuel ty cs.toList = some ((.agg (zs.map fun z => .lit (.string z)) : DataW Unit), p)) : ∀ i, i < n → W.cell? ⟨g, i, none⟩ = some (.string ⟨(zs.getD i []).toArray⟩) := by
  obtain ⟨xs, m1, rfl, hx1, hlen, hn, hel⟩ := DataW.trod_array hu h
  have c1 : Tryd.prog.cellsOf 9 = 1 := by kernel_rfl
  have hd : xs.map (·.1) = zs.map fun z => (DataW.lit (.string z) : DataW Unit) := by
    have := congrArg Prod.fst hx1
    simp only [DataW.agg.injEq] at this
    exact this.symm
  intro i hi
  have h0 := hel i hi
  rw [c1, Nat.mul_one] at h0
  have hxi : xs[i]? = some xs[i] := List.getElem?_eq_getElem (by omega)
  rw [hxi] at h0
  obtain ⟨s, e1, e2, _⟩ := DataW.trod_string Tryd.underlying9 h0
  have hcs : cs[i]? = some (.string s) := by
    have := congrArg (·[0]?) e1
    simpa [List.getElem?_take, List.getElem?_drop] using this
  rw [World.var?_cell hg hv i, hcs]
  have hz2 : (xs.map (·.1))[i]? = some (DataW.lit (.string s.data.toList) : DataW Unit) := by
    rw [List.getElem?_map, hxi, e2]; rfl
  rw [hd, List.getElem?_map] at hz2
  have hi' : i < zs.length := by omega
  rw [List.getElem?_eq_getElem hi'] at hz2
  simp only [Option.map_some, Option.some.injEq, DataW.lit.injEq, Lit.string.injEq] at hz2
  have : s = ⟨(zs.getD i []).toArray⟩ := by
    rw [List.getD_eq_getElem?_getD, List.getElem?_eq_getElem hi', Option.getD_some, hz2]
  rw [this]
def evwL : List (List UInt8) := [[], [98, 111, 114, 100, 101, 114], [98, 101, 101, 112], [112, 115, 103], [105, 110], [105, 110, 116]]
def evW (k : Nat) : ByteArray := ⟨(evwL.getD k []).toArray⟩
def spX : ByteArray := ⟨#[32]⟩
def evtB (t k v : Nat) : ByteArray := digB t ++ spX ++ evW k ++ spX ++ digB v
def okEv (t k v : Int) : Bool := inB t 0 739 && inB k 1 5 && inB v 0 255
abbrev evtA (t k v : Int) : Array Value := #[.int .i64 t, .int .i64 k, .int .i64 v]
abbrev evtV (t k v : Int) : Value := .agg #[.int .i64 t, .int .i64 k, .int .i64 v]
def evt2 (t k v : Int) : Value := if okEv t k v = true then .tuple #[.string (evtB t.toNat k.toNat v.toNat), .int .i64 0] else .tuple #[.string ⟨#[]⟩, .int .i64 1]
theorem evW_facts : ∀ k, k < 6 → 1 ≤ k → (evW k).size ≤ 6 ∧ evW k ≠ ⟨#[]⟩ := by decide +kernel
theorem digB_ne (n : Nat) : digB n ≠ ⟨#[]⟩ := by
  intro h
  have h1 : (digB n).data.toList = [] := by rw [h]
  have h2 : Go.Lib.decDigits n = [] := h1
  have := Go.Lib.decDigits_length n
  rw [h2] at this
  unfold Go.Lib.nDigits at this
  split at this <;> simp at this
theorem said_all : ∀ ws : List ByteArray, (∀ x ∈ ws, x ≠ ⟨#[]⟩) → saidL ws = ws := fun ws h => by
  unfold saidL
  rw [List.filter_eq_self]
  intro x hx
  simpa using h x hx
theorem evt_line (t k v : Nat) (h1 : 1 ≤ k) (h2 : k < 6) : lineB [digB t, evW k, digB v] = evtB t k v := by
  unfold lineB
  rw [said_all _ (by simp only [List.mem_cons, List.not_mem_nil, or_false]; rintro x (rfl | rfl | rfl); exact digB_ne _; exact (evW_facts k h2 h1).2; exact digB_ne _)]
  unfold joinB evtB spX
  apply ByteArray.ext
  simp [Lib.join_cons, Lib.joinTail, ByteArray.data_append]
theorem seq_one {P : Program} {ops : Array Oper} {Q : Exit → Act → World → Prop} {o : Oper} {R : List Oper} {a : Act} {w : World} (hw : Region.wanted o (yielded ops a.tmps) = true) (h : Oper.wp P o a w (wpSeq P ops Q R) Q) : wpSeq P ops Q (o :: R) a w := by
  show if _ then _ else _
  rw [if_pos hw]
  exact h
def EvWs (w : World) : Prop := ∀ i, i < 6 → w.cell? ⟨0, i, none⟩ = some (.string (evW i))
theorem EvWs.up {w w' : World} (h : EvWs w) (hb : Below w.heap.size w w') : EvWs w' := fun i hi => cellX_kept hb (h i hi)
theorem evok_1X {t k v : Int} (h : inB t 0 739 = false) : okEv t k v = false := by unfold okEv; rw [h]; rfl
theorem evok_2X {t k v : Int} (h : inB t 0 739 = true) (h2 : inB k 1 5 = false) : okEv t k v = false := by unfold okEv; rw [h, h2]; rfl
theorem evok_3X {t k v : Int} (h : inB t 0 739 = true) (h2 : inB k 1 5 = true) : okEv t k v = inB v 0 255 := by unfold okEv; rw [h, h2]; rfl
theorem okEv_bd {t k v : Int} (h : okEv t k v = true) : 0 ≤ t ∧ t ≤ 739 ∧ 1 ≤ k ∧ k ≤ 5 ∧ 0 ≤ v ∧ v ≤ 255 := by
  unfold okEv inB at h
  simp at h
  omega
theorem isbX_impl (n : Int) (w : World) : Calls Tryd.prog 74 #[.int .i64 n] w fun e w' => e = .returned (.bool (inB n 0 255)) ∧ w' = w := by
  go_enter Tryd.func74, Tryd.ntmps74
  go_wp2
  all_goals go_ret
  all_goals exact ⟨ret_bool (by rw [Bool.eq_iff_iff]; simp [inB]; try omega), rfl⟩
theorem byteX_spec (v : Int) (w : World) : Calls Tryd.prog 77 #[.int .i64 v] w fun e w' => e = .returned (.bool (inB v 0 255)) ∧ w' = w := by
  go_enter Tryd.func77, Tryd.ntmps77
  go_wp2_with (go_at_call 76; refine (in_spec _ _ _ _).mono ?_; rintro e w' ⟨rfl, rfl⟩)
  go_ret
  exact ⟨rfl, rfl⟩
set_option maxRecDepth 100000 in
theorem eventX_impl (t k v : Int) (w : World) : Calls Tryd.prog 33 #[evtV t k v] w fun r w' => r = .returned (.bool (okEv t k v)) ∧ Below w.heap.size w w' := by
  have hB := hid ((Below.refl w.heap.size w).alloc (Nat.le_refl _) (.cells (evtA t k v) 26))
  cases h1 : inB t 0 739
  · have hE := hid (evok_1X (k := k) (v := v) h1)
    go_enter Tryd.func33, Tryd.ntmps33
    go_wp2_with (go_at_call 79; refine (wi_impl _ _ _ _).mono ?_; rintro r w' ⟨rfl, rfl⟩; first | rw [h1] | rw [h2])
    go_ret
    exact ⟨ret_bool hE.out.symm, hB.out⟩
  · cases h2 : inB k 1 5
    · have hE := hid (evok_2X (v := v) h1 h2)
      go_enter Tryd.func33, Tryd.ntmps33
      go_wp2_with (go_at_call 79; refine (wi_impl _ _ _ _).mono ?_; rintro r w' ⟨rfl, rfl⟩; first | rw [h1] | rw [h2])
      go_ret
      exact ⟨ret_bool hE.out.symm, hB.out⟩
    · have hE := hid (evok_3X (v := v) h1 h2)
      go_enter Tryd.func33, Tryd.ntmps33
      go_wp2_with (first | (go_at_call 79; refine (wi_impl _ _ _ _).mono ?_; rintro r w' ⟨rfl, rfl⟩; first | rw [h1] | rw [h2]) | (go_at_call 74; refine (isbX_impl _ _).mono ?_; rintro r w' ⟨rfl, rfl⟩))
      go_ret
      exact ⟨ret_bool hE.out.symm, hB.out⟩
set_option maxRecDepth 100000 in
theorem eventX_spec (t k v : Int) (w : World) : Calls Tryd.prog 31 #[evtV t k v] w fun r w' => r = .returned (.bool (okEv t k v)) ∧ Below w.heap.size w w' := by
  have hB := hid ((Below.refl w.heap.size w).alloc (Nat.le_refl _) (.cells (evtA t k v) 26))
  cases h1 : inB t 0 739
  · have hE := hid (evok_1X (k := k) (v := v) h1)
    go_enter Tryd.func31, Tryd.ntmps31
    go_wp2_with (go_at_call 76; refine (in_spec _ _ _ _).mono ?_; rintro r w' ⟨rfl, rfl⟩; first | rw [h1] | rw [h2])
    go_ret
    exact ⟨ret_bool hE.out.symm, hB.out⟩
  · cases h2 : inB k 1 5
    · have hE := hid (evok_2X (v := v) h1 h2)
      go_enter Tryd.func31, Tryd.ntmps31
      go_wp2_with (go_at_call 76; refine (in_spec _ _ _ _).mono ?_; rintro r w' ⟨rfl, rfl⟩; first | rw [h1] | rw [h2])
      go_ret
      exact ⟨ret_bool hE.out.symm, hB.out⟩
    · have hE := hid (evok_3X (v := v) h1 h2)
      go_enter Tryd.func31, Tryd.ntmps31
      go_wp2_with (first | (go_at_call 76; refine (in_spec _ _ _ _).mono ?_; rintro r w' ⟨rfl, rfl⟩; first | rw [h1] | rw [h2]) | (go_at_call 77; refine (byteX_spec _ _).mono ?_; rintro r w' ⟨rfl, rfl⟩))
      go_ret
      exact ⟨ret_bool hE.out.symm, hB.out⟩
set_option maxRecDepth 100000 in
set_option maxHeartbeats 1000000 in
theorem evt_impl (t k v : Int) (w : World) (hE : EvWs w) (hT : PowT w) : Calls Tryd.prog 10 #[evtV t k v] w fun e w' => e = .returned (evt2 t k v) ∧ Below w.heap.size w w' := by
  have hb0 := hid ((Below.refl w.heap.size w).alloc (Nat.le_refl _) (.cells (evtA t k v) 26))
  have hq0 := hid (Blk.new w (evtA t k v) 26)
  replace hE := hid hE
  replace hT := hid hT
  cases hok : okEv t k v
  · have e : evt2 t k v = .tuple #[.string ⟨#[]⟩, .int .i64 1] := by unfold evt2; rw [hok]; rfl
    rw [e]
    clear e
    go_enter Tryd.func10, Tryd.ntmps10
    go_wp2_with fail
    refine (eventX_impl _ _ _ _).mono ?_
    rintro e w1 ⟨rfl, hb⟩
    rw [hok]
    have hb1 := hid (new_trans hb0.out hb)
    clear hb hb0 hq0
    go_wp2
    go_ret2
    exact ⟨rfl, hb1.out⟩
  obtain ⟨b0, b1, b2, b3, b4, b5⟩ := okEv_bd hok
  obtain ⟨T, rfl⟩ : ∃ X : Nat, t = (X : Int) := ⟨t.toNat, by omega⟩
  obtain ⟨K, rfl⟩ : ∃ X : Nat, k = (X : Int) := ⟨k.toNat, by omega⟩
  obtain ⟨V, rfl⟩ : ∃ X : Nat, v = (X : Int) := ⟨v.toNat, by omega⟩
  have e : evt2 T K V = .tuple #[.string (lineB [digB T, evW K, digB V]), .int .i64 0] := by unfold evt2; rw [hok, if_pos rfl, evt_line T K V (by omega) (by omega)]; rfl
  rw [e]
  clear e
  have hwz := (evW_facts K (by omega) (by omega)).1
  have hIT := hid (fun W (h : PowT W) => itoaX_impl T W (by omega) h)
  have hIV := hid (fun W (h : PowT W) => itoaX_impl V W (by omega) h)
  have hz : Hid (∀ x ∈ [digB T, evW K, digB V], x.size ≤ 1000) := by
    intro x hx
    simp only [List.mem_cons, List.not_mem_nil, or_false] at hx
    rcases hx with rfl | rfl | rfl
    · exact Nat.le_trans (digB_size T (Nat.lt_of_lt_of_le (by omega : T < 1000) (by decide))) (by decide)
    · omega
    · exact Nat.le_trans (digB_size V (Nat.lt_of_lt_of_le (by omega : V < 1000) (by decide))) (by decide)
  have hK6 : Hid (K < 6) := by show K < 6; omega
  obtain ⟨WK, hWK⟩ : ∃ x, evW K = x := ⟨_, rfl⟩
  obtain ⟨DT, hDT⟩ : ∃ x, digB T = x := ⟨_, rfl⟩
  obtain ⟨DV, hDV⟩ : ∃ x, digB V = x := ⟨_, rfl⟩
  rw [hWK, hDT, hDV] at hz ⊢
  rw [hDT] at hIT
  rw [hDV] at hIV
  replace hWK := hid hWK
  have k0 : (0 : Int) ≤ (K : Int) := by omega
  have k1 : (K : Int) < 6 := by omega
  clear hDT hDV hwz
  go_enter Tryd.func10, Tryd.ntmps10
  go_wp2_with fail
  refine (eventX_impl _ _ _ _).mono ?_
  rintro e w1 ⟨rfl, hb⟩
  rw [hok]
  have hb1 := hid (new_trans hb0.out hb)
  have hq1 := hid (hq0.out.below hb hq0.out.lt)
  clear hb hb0 hq0 hok
  go_upto_region 3 with fail
  have hS : Hid ((Blk w1 w.heap.size (evtA T K V) ∧ EvWs w1 ∧ PowT w1 ∧ Below w.heap.size w w1) ∧ Below w1.heap.size w1 w1) := ⟨⟨hq1.out, hE.out.up hb1.out, hT.out.up hb1.out, hb1.out⟩, Below.refl _ _⟩
  refine seq_region (fun W => Hid ((Blk W w.heap.size (evtA T K V) ∧ EvWs W ∧ PowT W ∧ Below w.heap.size w W) ∧ Below w1.heap.size w1 W)) (by kernel_rfl) (by kernel_rfl) (by kernel_rfl) (by kernel_rfl) (by kernel_rfl) (by kernel_rfl) (⟨⟨hq1.out.below (Below.refl _ _).drew hq1.out.lt, hS.out.1.2.1.up (Below.refl _ _).drew, hS.out.1.2.2.1.up (Below.refl _ _).drew, hS.out.1.2.2.2.drew⟩, (Below.refl _ _).drew⟩) ?_
  iterate 2 (refine seq_take (v := ?_) (by kernel_rfl) ?_ ?_; rotate_left; (focus (intro W hW; have y0 := hW.out.1.1.cell; go_simp; first | done | with_reducible rfl)); (try simp only [Act.put, List.setIfInBounds_toArray, List.set_cons_zero, List.set_cons_succ]))
  refine seq_call (f := 35) (args := #[.int .i64 (T : Int)]) (.string DT) (by kernel_rfl) ?_ ?_ ?_; (focus (intro W; go_simp; first | done | with_reducible rfl)); (focus (intro W hW; exact (hIT.out W hW.out.1.2.2.1).mono (fun r W' hr => ⟨hr.1, ⟨hW.out.1.1.below hr.2 hW.out.1.1.lt, hW.out.1.2.1.up hr.2, hW.out.1.2.2.1.up hr.2, new_trans hW.out.1.2.2.2 hr.2⟩, new_trans hW.out.2 hr.2⟩))); (try simp only [Act.put, List.setIfInBounds_toArray, List.set_cons_zero, List.set_cons_succ])
  iterate 2 (refine seq_take (v := ?_) (by kernel_rfl) ?_ ?_; rotate_left; (focus (intro W hW; have y0 := hW.out.1.1.cell; go_simp; first | done | with_reducible rfl)); (try simp only [Act.put, List.setIfInBounds_toArray, List.set_cons_zero, List.set_cons_succ]))
  refine seq_take (v := ?_) (by kernel_rfl) ?_ ?_; rotate_left; (focus (intro W hW; have y0 := hW.out.1.2.1 K hK6.out; go_simp; first | done | with_reducible rfl)); (try simp only [Act.put, List.setIfInBounds_toArray, List.set_cons_zero, List.set_cons_succ])
  refine seq_take (v := ?_) (by kernel_rfl) ?_ ?_; rotate_left; (focus (intro W hW; have y0 := hW.out.1.2.1 K hK6.out; rw [hWK.out] at y0; go_simp; first | done | with_reducible rfl)); (try simp only [Act.put, List.setIfInBounds_toArray, List.set_cons_zero, List.set_cons_succ])
  iterate 2 (refine seq_take (v := ?_) (by kernel_rfl) ?_ ?_; rotate_left; (focus (intro W hW; have y0 := hW.out.1.1.cell; go_simp; first | done | with_reducible rfl)); (try simp only [Act.put, List.setIfInBounds_toArray, List.set_cons_zero, List.set_cons_succ]))
  refine seq_call (f := 35) (args := #[.int .i64 (V : Int)]) (.string DV) (by kernel_rfl) ?_ ?_ ?_; (focus (intro W; go_simp; first | done | with_reducible rfl)); (focus (intro W hW; exact (hIV.out W hW.out.1.2.2.1).mono (fun r W' hr => ⟨hr.1, ⟨hW.out.1.1.below hr.2 hW.out.1.1.lt, hW.out.1.2.1.up hr.2, hW.out.1.2.2.1.up hr.2, new_trans hW.out.1.2.2.2 hr.2⟩, new_trans hW.out.2 hr.2⟩))); (try simp only [Act.put, List.setIfInBounds_toArray, List.set_cons_zero, List.set_cons_succ])
  refine seq_end (by decide) (by kernel_rfl) (fun W hW => ?_)
  have hB2 := hid hW.out.1.2.2.2
  clear hS hW hq1 hb1
  refine seq_one (by kernel_rfl) ?_
  go_simp
  refine seq_one (by kernel_rfl) ?_
  have hL := hid (line_impl W.heap.size 3 [DT, WK, DV] (W.alloc (.cells #[.string DT, .string WK, .string DV] 9)) (fun j x hx => by rw [World.cell?_alloc_at _ _ _ _ rfl]; match j, hx with | 0, hx => exact congrArg (Option.map Value.string) hx | 1, hx => exact congrArg (Option.map Value.string) hx | 2, hx => exact congrArg (Option.map Value.string) hx) (by simp) hz.out)
  have hB3 : Hid (Below w.heap.size w (W.alloc (.cells #[.string DT, .string WK, .string DV] 9))) := hB2.out.alloc hB2.out.size _
  clear hB2
  generalize W.alloc (.cells #[.string DT, .string WK, .string DV] 9) = W2 at *
  go_simp
  go_at_call 34
  refine hL.out.mono ?_
  rintro e W3 ⟨rfl, hb3⟩
  have hB4 := hid (new_trans hB3.out hb3)
  clear hb3 hB3 hL hz
  go_simp
  refine seq_one (by kernel_rfl) ?_
  go_simp
  refine seq_one (by kernel_rfl) ?_
  go_simp
  unfold wpSeq
  trace_state
  go_wp2
  go_ret2
  exact ⟨rfl, hB4.out⟩
end Go.Proofs.YtneagomkohoceabDoor
