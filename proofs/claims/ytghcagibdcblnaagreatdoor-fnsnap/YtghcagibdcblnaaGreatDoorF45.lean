/- A reader's panic is recovered in the deferred function: the program. -/
import Derived.Test.YtghcagibdcblnaaGreatDoorF44
import Derived.Defers
import Derived.Recover
import Derived.Test.YtghcagibdcblnaaGreatDoorF23
namespace Go.Proofs.YtghcagibdcblnaaGreatDoor
open Go.ChangeShapes Go.WideShapes Go.ChangeAt Go.RowKit
set_option linter.unusedVariables false
set_option linter.unusedSimpArgs false

theorem fault_assert (c : Int) (w : World) : (Instr.typeAssert (.iface 104 (.int .i64 c)) 20 104 true).run Tryz.prog w = .ok (.tuple #[.int .i64 c, .bool true]) w := by kernel_rfl
theorem codeof_impl (c : Int) (w : World) : Calls Tryz.prog 41 #[.iface 104 (.int .i64 c)] w fun e w' => e = .returned (.int .i64 c) ∧ w' = w := by
  have hta := fault_assert c
  go_enter Tryz.func41, Tryz.ntmps41
  go_wp2
  go_ret
  exact ⟨rfl, rfl⟩
theorem layE_size : ∀ (l : List Value) (i : Nat) (A : Array Value), (layE i l A).size = A.size
  | [], _, _ => rfl
  | u :: r, i, A => by
    show (layE (i + 1) r (A.setIfInBounds i u)).size = A.size
    rw [layE_size r, Array.size_setIfInBounds]
theorem layE_get : ∀ (l : List Value) (i : Nat) (A : Array Value) (j : Nat), i + l.length ≤ A.size → (layE i l A)[j]? = if i ≤ j ∧ j < i + l.length then l[j - i]? else A[j]?
  | [], i, A, j, _ => by
    rw [if_neg (by simp)]
    rfl
  | u :: r, i, A, j, h => by
    show (layE (i + 1) r (A.setIfInBounds i u))[j]? = _
    rw [List.length_cons] at h ⊢
    rw [layE_get r (i + 1) _ j (by rw [Array.size_setIfInBounds]; omega), Array.getElem?_setIfInBounds]
    by_cases e : i = j
    · subst e
      rw [if_neg (by omega), if_pos rfl, if_pos (by omega), if_pos (by omega), Nat.sub_self]
      rfl
    · by_cases h1 : i + 1 ≤ j ∧ j < i + 1 + r.length
      · obtain ⟨m, hm⟩ : ∃ m, j - i = m + 1 := ⟨j - i - 1, by omega⟩
        rw [if_pos h1, if_pos (by omega), hm, List.getElem?_cons_succ]
        congr 1
        omega
      · rw [if_neg h1, if_neg e, if_neg (by omega)]
theorem lay_any (A : Array Value) (hA : A.size = 31) : layE 0 (snA sn0 nl nl).toList A = snA sn0 nl nl := by
  refine Array.ext_getElem? (fun j => ?_)
  have hl : (snA sn0 nl nl).toList.length = 31 := rfl
  rw [layE_get _ 0 A j (by rw [hl]; omega)]
  by_cases h : j < 31
  · rw [if_pos (by rw [hl]; omega), Nat.sub_zero, Array.getElem?_toList]
  · rw [if_neg (by rw [hl]; omega), Array.getElem?_eq_none (by omega), Array.getElem?_eq_none (by show 31 ≤ j; omega)]
theorem catch_idle (p q : Value) (w : World) : CallsD Tryz.prog 40 #[p, q] .returning w fun e u' w' => e = .returned (.tuple #[]) ∧ u' = .returning ∧ w' = w := by
  refine callsD_of_wpS Tryz.func40 rfl fun c₀ cs hu => ?_
  apply wpS_seq
  apply wpS_region
  simp [wpOpsS, go_sem, recoverD, hu, Tryz.ntmps40, Exit.thenS]
  refine wpS_of_wp ?_
  simp only [Array.replicate_succ, Array.replicate_zero, List.push_toArray, List.append_toArray, List.nil_append, List.cons_append, List.setIfInBounds_toArray, List.set_cons_zero, List.set_cons_succ]
  go_wp2
  refine ⟨rfl, .returning, by rw [← hu], .tuple #[], by simp [results, Tryz.results40], rfl, rfl, rfl⟩
set_option maxRecDepth 100000 in
set_option maxHeartbeats 1000000 in
theorem catch_panicking (S C : Nat) (A : Array Value) (x c : Int) (older : List PanicEntry) (w : World) (qS : Blk w S A) (hA : A.size = 31) (qC : Blk w C #[.int .i64 x]) (hne : S ≠ C) :
    CallsD Tryz.prog 40 #[.pointer (some ⟨S, 0, none⟩), .pointer (some ⟨C, 0, none⟩)] (.panicking ({ v := .iface 104 (.int .i64 c), recovered := false } :: older)) w fun e u' w' =>
      e = .returned (.tuple #[]) ∧ u' = .panicking ({ v := .iface 104 (.int .i64 c), recovered := true } :: older) ∧ Blk w' S (snA sn0 nl nl) ∧ Blk w' C #[.int .i64 c] ∧ Kd [S, C] w w' := by
  have hCo := hid (fun W => codeof_impl c W)
  have hth := hid (blk_there qS (o := 0) (n := (snA sn0 nl nl).size) (by show 0 + 31 ≤ A.size; omega))
  obtain ⟨wF, hwF⟩ : ∃ X, w.setCells S 0 (snA sn0 nl nl).toList = X := ⟨_, rfl⟩
  have qF : Hid (Blk wF S (snA sn0 nl nl)) := by
    rw [← hwF]
    have := layE_blk S (snA sn0 nl nl).toList w 0 A qS
    rw [lay_any A hA] at this
    exact this
  have qF2 : Hid (Blk wF C #[.int .i64 x]) := by rw [← hwF]; exact layE_other (fun e => hne e.symm) _ _ _ qC
  have kF : Hid (Kd [S, C] w wF) := by rw [← hwF]; exact Kd.cells (by simp) _ _ _ (Kd.refl _ _)
  replace hwF := hid hwF
  clear qS qC
  refine callsD_of_wpS Tryz.func40 rfl fun c₀ cs hu => ?_
  apply wpS_seq
  apply wpS_region
  simp [wpOpsS, go_sem, recoverD, hu, Tryz.ntmps40, Exit.thenS]
  refine wpS_of_wp ?_
  simp only [Array.replicate_succ, Array.replicate_zero, List.push_toArray, List.append_toArray, List.nil_append, List.cons_append, List.setIfInBounds_toArray, List.set_cons_zero, List.set_cons_succ]
  go_wp2_with fail
  refine (hCo.out _).mono ?_
  rintro e w' ⟨rfl, hww⟩
  obtain rfl := hww.symm
  have x0 := qF2.out.cell
  have xf := qF2.out.frozen
  have xl := qF2.out.lt
  have qZ := hid (qF2.out.set 0 (.int .i64 c))
  have qY := hid (qF.out.other (p := ⟨C, 0, none⟩) hne (.int .i64 c))
  have kZ := hid (kF.out.set (g := C) (by simp) 0 (.int .i64 c))
  go_wp2_with (guard_target = wpList _ _ _ (Oper.mk _ (Op.store 33 _ _) _ _ _ _ :: _) _ _; refine wpList_store_mid rfl 33 _ _ rfl S 0 (snA sn0 nl nl) rfl rfl hth.out (szS2 _ _ _) (sn_one _ rfl rfl) ?_; rw [hwF.out])
  exact ⟨rfl, _, rfl, .tuple #[], by simp [results, Tryz.results40], rfl, rfl, qY.out, qZ.out, kZ.out⟩
end Go.Proofs.YtghcagibdcblnaaGreatDoor

/- What a reader's steps are of the whole that is read: plain. -/
namespace Go.Proofs.YtghcagibdcblnaaGreatDoor
open Go.ChangeShapes Go.WideShapes Go.ChangeAt Go.RowKit
set_option linter.unusedVariables false
set_option linter.unusedSimpArgs false

theorem bkX_eq (t : ByteArray) (a : Nat) : bts (t.extract (a + 2) (a + 2 + bkN t a)) = bts (bkX t a) := rfl
theorem Bk.stop {t : ByteArray} {i p : Nat} {B : List (List Int)} (h : Bk t i p B) (hi : i < 4) (hc : bkC t p ≠ 0) : (rdB 4 ((bts t).drop 15)).2.2 = bkC t p := by
  have hn := (bkN_le t p).2
  unfold bkC at hc ⊢
  by_cases h1 : t.size < p + 2
  · rw [if_pos h1]
    exact h.none hi (by omega)
  · rw [if_neg h1] at hc ⊢
    by_cases h2 : t.size < p + 2 + bkN t p
    · rw [if_pos h2]
      exact h.cut hi (by omega) hn h2
    · rw [if_neg h2] at hc ⊢
      exact h.bad hi (by omega) hn h2 hc
theorem Bk.went {t : ByteArray} {i p : Nat} {B : List (List Int)} (h : Bk t i p B) (hi : i < 4) (hc : bkC t p = 0) : Bk t (i + 1) (p + 2 + bkN t p) (B ++ [bkL t p]) ∧ (bkL t p).length = 64 ∧ p + 2 + bkN t p ≤ t.size := by
  have hn := (bkN_le t p).2
  unfold bkC at hc
  by_cases h1 : t.size < p + 2
  · rw [if_pos h1] at hc; cases hc
  · rw [if_neg h1] at hc
    by_cases h2 : t.size < p + 2 + bkN t p
    · rw [if_pos h2] at hc; cases hc
    · rw [if_neg h2] at hc
      exact ⟨h.next hi (by omega) hn h2 hc, expL_ok 64 _ _ _ hc, by omega⟩
theorem rd_short {t : ByteArray} (R : List Int) (h : t.size < 15) : rdS R (bts t) = (sn0, 9) := by
  unfold rdS
  rw [if_pos (by rw [bts_len]; exact h)]
theorem hd_cu {t : ByteArray} (h : 15 ≤ t.size) (s : Sn) : (hdS s t).c = cuS (bts t) := by
  unfold hdS cuS
  rw [bts_getD t (show 1 < t.size by omega), bts_getD t (show 2 < t.size by omega), bts_getD t (show 3 < t.size by omega), bts_getD t (show 4 < t.size by omega), bts_getD t (show 5 < t.size by omega), bts_getD t (show 6 < t.size by omega), bts_getD t (show 7 < t.size by omega), bts_getD t (show 8 < t.size by omega), bts_getD t (show 9 < t.size by omega), bts_getD t (show 10 < t.size by omega), bts_getD t (show 11 < t.size by omega), bts_getD t (show 12 < t.size by omega)]
theorem rd_head {t : ByteArray} (R : List Int) (h : 15 ≤ t.size) : rdS R (bts t) = if hdC t ≠ 0 then (sn0, hdC t) else if (rdB 4 ((bts t).drop 15)).2.2 ≠ 0 then (sn0, (rdB 4 ((bts t).drop 15)).2.2) else if (rdB 4 ((bts t).drop 15)).2.1 ≠ [] then (sn0, 8) else (⟨cuS (bts t), meS R (bts t) (rdB 4 ((bts t).drop 15)).1, poS (byt t 14)⟩, 0) := by
  have e : rdS R (bts t) = if byt t 0 ≠ 3 then (sn0, 18) else if 31 < byt t 12 ∨ 31 < byt t 14 ∨ 3 < byt t 13 ∨ okC (cuS (bts t)) = false then (sn0, 3) else if (rdB 4 ((bts t).drop 15)).2.2 ≠ 0 then (sn0, (rdB 4 ((bts t).drop 15)).2.2) else if (rdB 4 ((bts t).drop 15)).2.1 ≠ [] then (sn0, 8) else (⟨cuS (bts t), meS R (bts t) (rdB 4 ((bts t).drop 15)).1, poS (byt t 14)⟩, 0) := by
    unfold rdS
    rw [if_neg (by rw [bts_len]; omega), bts_getD t (show 0 < t.size by omega), bts_getD t (show 12 < t.size by omega), bts_getD t (show 13 < t.size by omega), bts_getD t (show 14 < t.size by omega)]
  rw [e]
  by_cases h0 : byt t 0 = 3
  · by_cases h1 : 31 < byt t 12 ∨ 31 < byt t 14 ∨ 3 < byt t 13 ∨ okC (cuS (bts t)) = false
    · have h2 : hdC t = 3 := by
        unfold hdC
        rw [if_neg (by simpa using h0), if_pos]
        rw [hd_cu h]
        rcases h1 with h1 | h1 | h1 | h1
        · exact .inl h1
        · exact .inr (.inr (.inl h1))
        · exact .inr (.inl h1)
        · exact .inr (.inr (.inr h1))
      rw [h2, if_neg (by simpa using h0), if_pos h1, if_pos (by decide)]
    · have h2 : hdC t = 0 := by
        unfold hdC
        rw [if_neg (by simpa using h0), if_neg]
        rw [hd_cu h]
        intro h2
        apply h1
        rcases h2 with h2 | h2 | h2 | h2
        · exact .inl h2
        · exact .inr (.inr (.inl h2))
        · exact .inr (.inl h2)
        · exact .inr (.inr (.inr h2))
      rw [h2, if_neg (by simpa using h0), if_neg h1]
      exact (if_neg (by decide)).symm
  · have h2 : hdC t = 18 := by
      unfold hdC
      rw [if_pos h0]
    rw [h2, if_pos h0, if_pos (by decide)]
/-- a snapshot while its banks are read -/
def bkS (rom t : ByteArray) (B : List (List Int)) (k : Nat) : Sn := { hdS { sn0 with m := newM rom } t with m := { (hdS { sn0 with m := newM rom } t).m with ram := B ++ List.replicate (4 - k) z64 } }
theorem bkS_start (rom t : ByteArray) (h : rom.size = 64) : bkS rom t [] 0 = hdS { sn0 with m := newM rom } t := by
  unfold bkS newM
  rw [if_pos h]
  rfl
theorem bkS_len {rom t : ByteArray} {B : List (List Int)} {k : Nat} (h : B.length = k) (hk : k ≤ 4) : (bkS rom t B k).m.ram.length = 4 := by
  show (B ++ List.replicate (4 - k) z64).length = 4
  rw [List.length_append, List.length_replicate]
  omega
theorem bkS_next {rom t : ByteArray} {B : List (List Int)} {k : Nat} (h : B.length = k) (hk : k < 4) (L : List Int) : (bkS rom t B k).m.ram.set k L = (bkS rom t (B ++ [L]) (k + 1)).m.ram := by
  show (B ++ List.replicate (4 - k) z64).set k L = (B ++ [L]) ++ List.replicate (4 - (k + 1)) z64
  obtain ⟨m, hm⟩ : ∃ m, 4 - k = m + 1 := ⟨3 - k, by omega⟩
  have hm2 : 4 - (k + 1) = m := by omega
  rw [hm, hm2, List.replicate_succ, List.set_append_right _ _ (by omega), h, Nat.sub_self, List.append_assoc]
  rfl
theorem rd_all {rom t : ByteArray} {B : List (List Int)} {p : Nat} (h : 15 ≤ t.size) (hr : rom.size = 64) (hc : hdC t = 0) (hB : Bk t 4 p B) (hp : p = t.size) : rdS (romL rom) (bts t) = (bkS rom t B 4, 0) := by
  have e0 : (rdB (4 - 4) ((bts t).drop p)) = ([], (bts t).drop p, 0) := rfl
  have hcd : (rdB 4 ((bts t).drop 15)).2.2 = 0 := by rw [hB.code, e0]
  obtain ⟨hrs, hbn⟩ := hB.rest (by rw [e0])
  rw [e0] at hrs hbn
  dsimp only at hrs hbn
  rw [List.append_nil] at hbn
  rw [rd_head _ h, if_neg (fun hh => hh hc), if_neg (fun hh => hh hcd), if_neg (by rw [hrs, List.drop_eq_nil_of_le (by rw [bts_len]; omega)]; exact fun hh => hh rfl), hbn, ← hd_cu h { sn0 with m := newM rom }]
  unfold bkS meS
  rw [bts_getD t (show 12 < t.size by omega), bts_getD t (show 13 < t.size by omega)]
  rw [show 4 - 4 = 0 from rfl, List.replicate_zero, List.append_nil]
  have hn : (newM rom).rom = romL rom := by unfold newM; rw [if_pos hr]
  unfold hdS
  dsimp only
  rw [hn]
theorem rd_more {rom t : ByteArray} {B : List (List Int)} {p : Nat} (h : 15 ≤ t.size) (hc : hdC t = 0) (hB : Bk t 4 p B) (hp : p < t.size) : rdS (romL rom) (bts t) = (sn0, 8) := by
  have e0 : (rdB (4 - 4) ((bts t).drop p)) = ([], (bts t).drop p, 0) := rfl
  have hcd : (rdB 4 ((bts t).drop 15)).2.2 = 0 := by rw [hB.code, e0]
  obtain ⟨hrs, hbn⟩ := hB.rest (by rw [e0])
  rw [e0] at hrs
  dsimp only at hrs
  rw [rd_head _ h, if_neg (fun hh => hh hc), if_neg (fun hh => hh hcd), if_pos (by rw [hrs, bts_drop t hp]; exact fun hh => (by cases hh))]
end Go.Proofs.YtghcagibdcblnaaGreatDoor

/- A snapshot's text is read, and what is told where a reader stops: the program. -/
namespace Go.Proofs.YtghcagibdcblnaaGreatDoor
open Go.ChangeShapes Go.WideShapes Go.ChangeAt Go.RowKit
set_option linter.unusedVariables false
set_option linter.unusedSimpArgs false

theorem results_two {P : Program} {fn : Func} {p q : Tmp} {ty ty2 : TypeId} (h : fn.results = #[.cell p ty, .cell q ty2]) (tmps : Array Value) (w : World) (g g2 : Nat) (t : TypeId) (cs : Array Value) (fr : Nat × Nat) (d : TypeDesc) (v : Value)
    (hp : tmps.getD p undef = .pointer (some ⟨g, 0, none⟩)) (hq : tmps.getD q undef = .pointer (some ⟨g2, 0, none⟩)) (hg : w.heap[g]? = some (.cells cs t fr))
    (hu : P.underlying ty = some d) (hd : (match d with | .struct _ | .array _ _ => true | _ => false) = true) (hi : (P.info? ty).map (·.size) = some cs.size) (hv : (loadVar ty2 ⟨g2, 0, none⟩).run P w = .ok v w) :
    (results fn tmps).run P w = .ok (.tuple #[.agg cs, v]) w := by
  have hp' : tmps[p]?.getD undef = .pointer (some ⟨g, 0, none⟩) := by simpa using hp
  have hq' : tmps[q]?.getD undef = .pointer (some ⟨g2, 0, none⟩) := by simpa using hq
  simp [results, h, hp', hq', asAddr, run_loadVar_row w g t ty cs fr d hg hu hd hi, hv]
theorem load_int {W : World} {g : Nat} {c : Int} (h : Blk W g #[.int .i64 c]) : (loadVar 3 ⟨g, 0, none⟩).run Tryz.prog W = .ok (.int .i64 c) W := by
  have x := h.cell 0
  simp at x
  simp [go_sem, x]
theorem snap_results {W : World} {S C : Nat} {s : Sn} {vr vm : Value} {c : Int} (tmps : Array Value) (h4 : tmps.getD 4 undef = .pointer (some ⟨S, 0, none⟩)) (h5 : tmps.getD 5 undef = .pointer (some ⟨C, 0, none⟩)) (qS : Blk W S (snA s vr vm)) (qC : Blk W C #[.int .i64 c]) :
    (results Tryz.f19 tmps).run Tryz.prog W = .ok (.tuple #[.agg (snA s vr vm), .int .i64 c]) W := by
  obtain ⟨tt, htt⟩ := qS
  exact results_two Tryz.results19 tmps W S C tt (snA s vr vm) (0, 0) _ _ h4 h5 htt Tryz.underlying33 rfl (szS2 _ _ _) (load_int qC)
theorem snap_stop {W : World} {S C : Nat} {A : Array Value} {x c : Int} {R : Ending → World → Prop} (tmps : Array Value) (h4 : tmps.getD 4 undef = .pointer (some ⟨S, 0, none⟩)) (h5 : tmps.getD 5 undef = .pointer (some ⟨C, 0, none⟩)) (qS : Blk W S A) (hA : A.size = 31) (qC : Blk W C #[.int .i64 x]) (hne : S ≠ C)
    (hR : ∀ w', Kd [S, C] W w' → R (.returned (.tuple #[.agg (snA sn0 nl nl), .int .i64 c])) w') :
    bodyPostD Tryz.prog Tryz.f19 R (.panic (ftV c)) { tmps := tmps, defers := [{ target := .fn (.func 40) #[.pointer (some ⟨S, 0, none⟩), .pointer (some ⟨C, 0, none⟩)], args := #[] }] } W := by
  refine leaves_cons (f := 40) (args := #[.pointer (some ⟨S, 0, none⟩), .pointer (some ⟨C, 0, none⟩)]) (by simp) (by simp [go_sem]) ?_
  refine (catch_panicking S C A x c [] W qS hA qC hne).mono ?_
  rintro e u' w' ⟨rfl, rfl, q1, q2, k⟩
  exact ⟨_, snap_results tmps h4 h5 q1 q2, hR w' k⟩
theorem snap_done {W : World} {S C : Nat} {s : Sn} {vr vm : Value} {c : Int} {R : Ending → World → Prop} (tmps : Array Value) (h4 : tmps.getD 4 undef = .pointer (some ⟨S, 0, none⟩)) (h5 : tmps.getD 5 undef = .pointer (some ⟨C, 0, none⟩)) (qS : Blk W S (snA s vr vm)) (qC : Blk W C #[.int .i64 c])
    (hR : R (.returned (.tuple #[.agg (snA s vr vm), .int .i64 c])) W) :
    bodyPostD Tryz.prog Tryz.f19 R .ret { tmps := tmps, defers := [{ target := .fn (.func 40) #[.pointer (some ⟨S, 0, none⟩), .pointer (some ⟨C, 0, none⟩)], args := #[] }] } W := by
  refine leaves_cons (f := 40) (args := #[.pointer (some ⟨S, 0, none⟩), .pointer (some ⟨C, 0, none⟩)]) (by simp) (by simp [go_sem]) ?_
  refine (catch_idle _ _ W).mono ?_
  rintro e u' w' ⟨rfl, rfl, rfl⟩
  exact ⟨_, snap_results tmps h4 h5 qS qC, hR⟩
theorem head_short {w0 W : World} {e0 e1 e2 : Addr} {B : Nat} {t : ByteArray} (h : Rdr w0 W e0 e1 e2 B t 0) (p : Value) (hn : t.size < 15) :
    Calls Tryz.prog 43 #[.pointer (some ⟨B, 0, none⟩), p] W fun e w' => e = .panicked (ftV 9) ∧ Below W.heap.size W w' := by
  have hT := hid (bytes_end h 15 (by omega) (by omega))
  clear h hn
  go_enter Tryz.func43, Tryz.ntmps43
  go_wp2_with fail
  refine hT.out.mono ?_
  rintro e w1 ⟨rfl, hb⟩
  exact ⟨rfl, rfl, hb⟩
/-- what reading answers -/
def RdQ (w : World) (B : Nat) (r : Sn × Int) (e : Ending) (w' : World) : Prop := ∃ vr vm, e = .returned (.tuple #[.agg (snA r.1 vr vm), .int .i64 r.2]) ∧ MemO w' w.heap.size w'.heap.size (memV vr vm r.1.m.page r.1.m.screen r.1.m.locked) r.1.m ∧ Kd [B] w w'
theorem RdQ.none {w w1 w' : World} {B S C : Nat} {c : Int} (k : Kd [B, S, C] w w1) (hS : w.heap.size ≤ S) (hC : w.heap.size ≤ C) (k2 : Kd [S, C] w1 w') : RdQ w B (sn0, c) (.returned (.tuple #[.agg (snA sn0 nl nl), .int .i64 c])) w' :=
  ⟨nl, nl, rfl, MemO.zero _ _ _, (Kd.refl [B] w).since (k.trans (k2.mono (by simp))) (by intro x hx; simp at hx; rcases hx with rfl | rfl | rfl; left; simp; right; exact hS; right; exact hC)⟩
set_option maxRecDepth 100000 in
set_option maxHeartbeats 2000000 in
theorem snap_bad {w0 w : World} {e0 e1 e2 : Addr} {B : Nat} {t rom : ByteArray} (h : Rdr w0 w e0 e1 e2 B t 0) (hr : rom.size ≤ 65536) (hr2 : rom.size ≠ 64) :
    Calls Tryz.prog 19 #[.pointer (some ⟨B, 0, none⟩), .string rom] w (RdQ w B (sn0, 8)) := by
  have hmf : ∀ (fn : Fn) (first cap : Array Value) (w : World), (Instr.makeFunc fn first cap).run Tryz.prog w = .ok (.func fn first cap) w := fun _ _ _ _ => rfl
  have hM := hid (fun p W => memory_bad p rom W hr hr2)
  have k0 : Hid (Kd [B, w.heap.size, w.heap.size + 1] w ((w.alloc (.cells zS 33)).alloc (.cells #[.int .i64 0] 3))) := ((Kd.refl _ _).alloc _).alloc _
  have qS : Hid (Blk ((w.alloc (.cells zS 33)).alloc (.cells #[.int .i64 0] 3)) w.heap.size zS) := (Blk.new w zS _).alloc _
  have qC : Hid (Blk ((w.alloc (.cells zS 33)).alloc (.cells #[.int .i64 0] 3)) (w.heap.size + 1) #[.int .i64 0]) := by
    have := Blk.new (w.alloc (.cells zS 33)) #[.int .i64 0] 3
    rw [World.size_alloc] at this
    exact this
  clear h hr hr2
  go_enter_defers Tryz.func19, Tryz.ntmps19
  go_upto_region 1 with fail
  obtain ⟨V, hV⟩ : ∃ V, (w.alloc (.cells zS 33)).alloc (.cells #[.int .i64 0] 3) = V := ⟨_, rfl⟩
  rw [hV] at k0 qS qC ⊢
  clear hV
  go_wp2_with fail
  refine (hM.out _ _).mono ?_
  rintro e w1 ⟨rfl, hb⟩
  refine snap_stop _ rfl rfl (qS.out.below hb qS.out.lt) rfl (qC.out.below hb qC.out.lt) (by omega) (fun w' k => ?_)
  exact RdQ.none (k0.out.trans (Kd.of_below hb)) (Nat.le_refl _) (by omega) k
end Go.Proofs.YtghcagibdcblnaaGreatDoor
