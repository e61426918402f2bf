/- A snapshot's text is read, and what is told where a reader stops: the program. -/
import Derived.Test.YtghcagibdcblnaaDoorR46
namespace Go.Proofs.YtghcagibdcblnaaDoor
open Go.ChangeShapes Go.WideShapes Go.ChangeAt Go.RowKit
set_option linter.unusedVariables false
set_option linter.unusedSimpArgs false

theorem results_two {P : Program} {fn : Func} {p q : Tmp} {ty ty2 : TypeId} (h : fn.results = #[.cell p ty, .cell q ty2]) (tmps : Array Value) (w : World) (g g2 : Nat) (t : TypeId) (cs : Array Value) (fr : Nat × Nat) (d : TypeDesc) (v : Value)
    (hp : tmps.getD p undef = .pointer (some ⟨g, 0, none⟩)) (hq : tmps.getD q undef = .pointer (some ⟨g2, 0, none⟩)) (hg : w.heap[g]? = some (.cells cs t fr))
    (hu : P.underlying ty = some d) (hd : (match d with | .struct _ | .array _ _ => true | _ => false) = true) (hi : (P.info? ty).map (·.size) = some cs.size) (hv : (loadVar ty2 ⟨g2, 0, none⟩).run P w = .ok v w) :
    (results fn tmps).run P w = .ok (.tuple #[.agg cs, v]) w := by
  have hp' : tmps[p]?.getD undef = .pointer (some ⟨g, 0, none⟩) := by simpa using hp
  have hq' : tmps[q]?.getD undef = .pointer (some ⟨g2, 0, none⟩) := by simpa using hq
  simp [results, h, hp', hq', asAddr, run_loadVar_row w g t ty cs fr d hg hu hd hi, hv]
theorem load_int {W : World} {g : Nat} {c : Int} (h : Blk W g #[.int .i64 c]) : (loadVar 3 ⟨g, 0, none⟩).run Tryd.prog W = .ok (.int .i64 c) W := by
  have x := h.cell 0
  simp at x
  simp [go_sem, x]
theorem snap_results {W : World} {S C : Nat} {s : Sn} {vr vm : Value} {c : Int} (tmps : Array Value) (h4 : tmps.getD 4 undef = .pointer (some ⟨S, 0, none⟩)) (h5 : tmps.getD 5 undef = .pointer (some ⟨C, 0, none⟩)) (qS : Blk W S (snA s vr vm)) (qC : Blk W C #[.int .i64 c]) :
    (results Tryd.f10 tmps).run Tryd.prog W = .ok (.tuple #[.agg (snA s vr vm), .int .i64 c]) W := by
  obtain ⟨tt, htt⟩ := qS
  exact results_two Tryd.results10 tmps W S C tt (snA s vr vm) (0, 0) _ _ h4 h5 htt Tryd.underlying32 rfl (szS2 _ _ _) (load_int qC)
theorem snap_stop {W : World} {S C : Nat} {A : Array Value} {x c : Int} {R : Ending → World → Prop} (tmps : Array Value) (h4 : tmps.getD 4 undef = .pointer (some ⟨S, 0, none⟩)) (h5 : tmps.getD 5 undef = .pointer (some ⟨C, 0, none⟩)) (qS : Blk W S A) (hA : A.size = 31) (qC : Blk W C #[.int .i64 x]) (hne : S ≠ C)
    (hR : ∀ w', Kd [S, C] W w' → R (.returned (.tuple #[.agg (snA sn0 nl nl), .int .i64 c])) w') :
    bodyPostD Tryd.prog Tryd.f10 R (.panic (ftV c)) { tmps := tmps, defers := [{ target := .fn (.func 23) #[.pointer (some ⟨S, 0, none⟩), .pointer (some ⟨C, 0, none⟩)], args := #[] }] } W := by
  refine leaves_cons (f := 23) (args := #[.pointer (some ⟨S, 0, none⟩), .pointer (some ⟨C, 0, none⟩)]) (by simp) (by simp [go_sem]) ?_
  refine (catch_panicking S C A x c [] W qS hA qC hne).mono ?_
  rintro e u' w' ⟨rfl, rfl, q1, q2, k⟩
  exact ⟨_, snap_results tmps h4 h5 q1 q2, hR w' k⟩
theorem snap_done {W : World} {S C : Nat} {s : Sn} {vr vm : Value} {c : Int} {R : Ending → World → Prop} (tmps : Array Value) (h4 : tmps.getD 4 undef = .pointer (some ⟨S, 0, none⟩)) (h5 : tmps.getD 5 undef = .pointer (some ⟨C, 0, none⟩)) (qS : Blk W S (snA s vr vm)) (qC : Blk W C #[.int .i64 c])
    (hR : R (.returned (.tuple #[.agg (snA s vr vm), .int .i64 c])) W) :
    bodyPostD Tryd.prog Tryd.f10 R .ret { tmps := tmps, defers := [{ target := .fn (.func 23) #[.pointer (some ⟨S, 0, none⟩), .pointer (some ⟨C, 0, none⟩)], args := #[] }] } W := by
  refine leaves_cons (f := 23) (args := #[.pointer (some ⟨S, 0, none⟩), .pointer (some ⟨C, 0, none⟩)]) (by simp) (by simp [go_sem]) ?_
  refine (catch_idle _ _ W).mono ?_
  rintro e u' w' ⟨rfl, rfl, rfl⟩
  exact ⟨_, snap_results tmps h4 h5 qS qC, hR⟩
theorem head_short {w0 W : World} {e0 e1 e2 : Addr} {B : Nat} {t : ByteArray} (h : Rdr w0 W e0 e1 e2 B t 0) (p : Value) (hn : t.size < 15) :
    Calls Tryd.prog 26 #[.pointer (some ⟨B, 0, none⟩), p] W fun e w' => e = .panicked (ftV 9) ∧ Below W.heap.size W w' := by
  have hT := hid (bytes_end h 15 (by omega) (by omega))
  clear h hn
  go_enter Tryd.func26, Tryd.ntmps26
  go_wp2_with fail
  refine hT.out.mono ?_
  rintro e w1 ⟨rfl, hb⟩
  exact ⟨rfl, rfl, hb⟩
/-- what reading answers -/
def RdQ (w : World) (B : Nat) (r : Sn × Int) (e : Ending) (w' : World) : Prop := ∃ vr vm, e = .returned (.tuple #[.agg (snA r.1 vr vm), .int .i64 r.2]) ∧ MemO w' w.heap.size w'.heap.size (memV vr vm r.1.m.page r.1.m.screen r.1.m.locked) r.1.m ∧ Kd [B] w w'
theorem RdQ.none {w w1 w' : World} {B S C : Nat} {c : Int} (k : Kd [B, S, C] w w1) (hS : w.heap.size ≤ S) (hC : w.heap.size ≤ C) (k2 : Kd [S, C] w1 w') : RdQ w B (sn0, c) (.returned (.tuple #[.agg (snA sn0 nl nl), .int .i64 c])) w' :=
  ⟨nl, nl, rfl, MemO.zero _ _ _, (Kd.refl [B] w).since (k.trans (k2.mono (by simp))) (by intro x hx; simp at hx; rcases hx with rfl | rfl | rfl; left; simp; right; exact hS; right; exact hC)⟩
set_option maxRecDepth 100000 in
set_option maxHeartbeats 2000000 in
theorem snap_bad {w0 w : World} {e0 e1 e2 : Addr} {B : Nat} {t rom : ByteArray} (h : Rdr w0 w e0 e1 e2 B t 0) (hr : rom.size ≤ 65536) (hr2 : rom.size ≠ 64) :
    Calls Tryd.prog 10 #[.pointer (some ⟨B, 0, none⟩), .string rom] w (RdQ w B (sn0, 8)) := by
  have hmf : ∀ (fn : Fn) (first cap : Array Value) (w : World), (Instr.makeFunc fn first cap).run Tryd.prog w = .ok (.func fn first cap) w := fun _ _ _ _ => rfl
  have hM := hid (fun p W => memory_bad p rom W hr hr2)
  have k0 : Hid (Kd [B, w.heap.size, w.heap.size + 1] w ((w.alloc (.cells zS 32)).alloc (.cells #[.int .i64 0] 3))) := ((Kd.refl _ _).alloc _).alloc _
  have qS : Hid (Blk ((w.alloc (.cells zS 32)).alloc (.cells #[.int .i64 0] 3)) w.heap.size zS) := (Blk.new w zS _).alloc _
  have qC : Hid (Blk ((w.alloc (.cells zS 32)).alloc (.cells #[.int .i64 0] 3)) (w.heap.size + 1) #[.int .i64 0]) := by
    have := Blk.new (w.alloc (.cells zS 32)) #[.int .i64 0] 3
    rw [World.size_alloc] at this
    exact this
  clear h hr hr2
  go_enter_defers Tryd.func10, Tryd.ntmps10
  go_upto_region 1 with fail
  obtain ⟨V, hV⟩ : ∃ V, (w.alloc (.cells zS 32)).alloc (.cells #[.int .i64 0] 3) = V := ⟨_, rfl⟩
  rw [hV] at k0 qS qC ⊢
  clear hV
  go_wp2_with fail
  refine (hM.out _ _).mono ?_
  rintro e w1 ⟨rfl, hb⟩
  refine snap_stop _ rfl rfl (qS.out.below hb qS.out.lt) rfl (qC.out.below hb qC.out.lt) (by omega) (fun w' k => ?_)
  exact RdQ.none (k0.out.trans (Kd.of_below hb)) (Nat.le_refl _) (by omega) k
end Go.Proofs.YtghcagibdcblnaaDoor
