/- Whoever gathers numbers that an iterator yields: what such a loop holds, and what it leaves as it was. -/
import Derived.Test.YtifcdojaocndhaaDoorM13
import Derived.Test.YtifcdojaocndhaaDoorM35
import Derived.RangeFuncBox
import Derived.RangeFuncCalls
import Derived.RangeFuncLeaves
import Derived.Shelf.Abstract
import Derived.Shelf.RegionOpen
import Derived.OwnWalkIn
import Derived.TacticsInMore
import Derived.Maps.OwnIn
import Derived.KernelRfl
import Derived.LoopNIn
import Derived.LoopIn
namespace Go.Proofs.YtifcdojaocndhaaDoor
open Go.ChangeShapes Go.WideShapes Go.ChangeAt Go.RowKit Go.Shelf
attribute [local go_sem] Oper.semAt_some
set_option linter.unusedVariables false
set_option linter.unusedSimpArgs false

structure Sink (base L : Nat) (fix : List Nat) (T : Int → Prop) (N : Nat) (S : World → Value → List Int → Prop) : Prop where
  cong : ∀ {W W' : World} {v : Value} {acc : List Int}, S W v acc → SameOn base fix v W W' → S W' v acc
  lt : ∀ {W : World} {v : Value} {acc : List Int}, S W v acc → (∀ b, b ∈ fix → base ≤ b ∧ b < W.heap.size) ∧ (∀ g, v.ownBlock = some g → base ≤ g ∧ g < W.heap.size) ∧ base ≤ W.heap.size
  step : ∀ (m : Nat) {W : World} {v : Value} {acc : List Int} (x : Int), S W v acc → T x → acc.length < N → YieldAt Fence.wide m Tryd.prog L #[.int .i64 x] W fun e W' => e = .returned (.bool true) ∧ ∃ v', S W' v' (acc ++ [x]) ∧ Kp fix W v W' v'
theorem Sink.below {base L N : Nat} {fix : List Nat} {T : Int → Prop} {S : World → Value → List Int → Prop} (K : Sink base L fix T N S) {W W' : World} {v : Value} {acc : List Int} (h : S W v acc) (hb : Below W.heap.size W W') : S W' v acc :=
  K.cong h ⟨hb.os, hb.tape, hb.output, hb.size, fun b hl => hb.block b (Nat.lt_of_lt_of_le hl (K.lt h).2.2), fun b hm => hb.block b ((K.lt h).1 b hm).2, fun g e => hb.block g ((K.lt h).2.1 g e).2⟩
structure Sj (p : Pj) (W : World) (cv : Value) (acc : List Int) : Prop where
  nd : p.O ≠ p.DF ∧ p.O ≠ p.L ∧ p.DF ≠ p.L
  far : p.w.heap.size ≤ p.O ∧ p.w.heap.size ≤ p.DF ∧ p.w.heap.size ≤ p.L
  o : Blk W p.O #[cv]
  df : W.heap[p.DF]? = some (.deferred (some []))
  lp : W.heap[p.L]? = some (.loop p.R)
  own : W.ownsRow p.w.heap.size 3 1 cv acc.length (acc.map (Value.int .i64))
  ne : ∀ g, cv.ownBlock = some g → g ∉ p.bs
  bel : Below p.w.heap.size p.w W
theorem Sj.lt {p : Pj} {W : World} {cv : Value} {acc : List Int} (h : Sj p W cv acc) : (∀ b, b ∈ p.bs → p.w.heap.size ≤ b ∧ b < W.heap.size) ∧ (∀ g, cv.ownBlock = some g → p.w.heap.size ≤ g ∧ g < W.heap.size) ∧ p.w.heap.size ≤ W.heap.size := by
  refine ⟨fun b hb => ?_, fun g e => h.own.lt g e, h.bel.size⟩
  have hb' : b ∈ [p.O, p.DF, p.L] := hb
  simp only [List.mem_cons, List.not_mem_nil, or_false] at hb'
  rcases hb' with rfl | rfl | rfl
  · exact ⟨h.far.1, h.o.lt⟩
  · exact ⟨h.far.2.1, (Array.getElem?_eq_some_iff.1 h.df).1⟩
  · exact ⟨h.far.2.2, (Array.getElem?_eq_some_iff.1 h.lp).1⟩
theorem Sj.cong {p : Pj} {W W' : World} {cv : Value} {acc : List Int} (h : Sj p W cv acc) (k : SameOn p.w.heap.size p.bs cv W W') : Sj p W' cv acc := by
  obtain ⟨m1, m2, m3⟩ := p.mem
  refine ⟨h.nd, h.far, ?_, (k.fix _ m2).trans h.df, (k.fix _ m3).trans h.lp, own_sameV h.own k.size k.own, h.ne, ?_⟩
  · obtain ⟨t, hq⟩ := h.o
    exact ⟨t, (k.fix _ m1).trans hq⟩
  · exact ⟨k.os.trans h.bel.os, k.tape.trans h.bel.tape, k.output.trans h.bel.output, Nat.le_trans h.bel.size k.size, fun b hb => (k.low b hb).trans (h.bel.block b hb)⟩
theorem Sj.form {p : Pj} {W : World} {cv : Value} {acc : List Int} (h : Sj p W cv acc) : ∃ oa cap, cv = .slice oa acc.length cap := by
  obtain ⟨_, ⟨h1, h0⟩ | ⟨g, cap, _, h1, _⟩⟩ := h.own
  · exact ⟨none, 0, by rw [h1, h0]⟩
  · exact ⟨_, _, h1⟩
theorem infoI : (Tryd.prog.info? 3).map (fun i => (i.zero, i.size, i.bytes)) = some (some (.int .i64 0), 1, 8) := by kernel_rfl
end Go.Proofs.YtifcdojaocndhaaDoor

/- The bits of a text, one by one to whoever asks for them: the program's iterator. -/
namespace Go.Proofs.YtifcdojaocndhaaDoor
open Go.ChangeShapes Go.WideShapes Go.ChangeAt Go.RowKit Go.Shelf
attribute [local go_sem] Oper.semAt_some
set_option linter.unusedVariables false
set_option linter.unusedSimpArgs false

theorem eachBit_impl (t : ByteArray) (w : World) : Calls Tryd.prog 164 #[.string t] w fun e w' => e = .returned (.func (.func 176) #[] #[.pointer (some ⟨w.heap.size, 0, none⟩)]) ∧ w' = w.alloc (.cells #[.string t] 9) := by
  go_enter Tryd.func164, Tryd.ntmps164
  go_wp2
  go_ret
  exact ⟨rfl, rfl⟩
set_option maxRecDepth 100000 in
set_option maxHeartbeats 4000000 in
theorem bitit_impl {base L N : Nat} {fix : List Nat} {T : Int → Prop} {S : World → Value → List Int → Prop} (K : Sink base L fix T N S) (hT : ∀ b : Nat, b < 2 → T b) (t : ByteArray) (BT : Nat) (W : World) (v : Value) (pre : List Int) (h : S W v pre) (hq : Blk W BT #[.string t]) (hf : BT ∉ fix) (hn : v.ownBlock ≠ some BT) (ht : t.size ≤ 400) (hp : pre.length + 8 * t.size ≤ N) (d : Nat) :
    CallsIn Fence.wide (d + 2) Tryd.prog 176 #[.func (.yield L) #[] #[], .pointer (some ⟨BT, 0, none⟩)] W fun e W' => e = .returned (.tuple #[]) ∧ ∃ v', S W' v' (pre ++ bitL t (8 * t.size)) ∧ Kp fix W v W' v' := by
  have hlen := hid (bitL_len t)
  have hsn := hid (bitL_snoc t)
  have h0 : Hid (bitL t 0 = []) := rfl
  generalize hB : bitL t = B at *
  clear hB
  have x0 := hq.cell
  have l0 := hq.lt
  replace h := hid h
  replace hq := hid hq
  replace hn := hid hn
  replace hf := hid hf
  replace K := hid K
  replace hT := hid hT
  refine callsIn_of_wp Tryd.func176 rfl trivial ?_ rfl
  simp only [Tryd.ntmps176, List.size_toArray, List.length_cons, List.length_nil, Nat.reduceAdd, Nat.reduceSub, Array.replicate_succ, Array.replicate_zero, List.push_toArray, List.append_toArray, List.nil_append, List.cons_append]
  gi_wp2
  clear x0 l0
  gi_loopw [7] (fun i wr => ∃ (k : Nat) (v' : Value), k ≤ t.size ∧ i = .int .i64 k ∧ S wr v' (pre ++ B (8 * k)) ∧ Kp fix W v wr v') (fun i _ => t.size - (intOf i).toNat)
  case atStart => exact ⟨0, v, by omega, rfl, by rw [Nat.mul_zero, h0.out, List.append_nil]; exact h.out, Kp.refl _ _ _⟩
  case round =>
    obtain ⟨k, v1, hk, rfl, hS, hK⟩ := hrel
    clear h
    by_cases hlt : k < t.size
    · replace hS := hid hS
      replace hK := hid hK
      gi_wp2
      gi_loopw [4] (fun j wr => ∃ (m : Nat) (v' : Value), m ≤ 8 ∧ j = .int .i64 (7 - (m : Int)) ∧ S wr v' (pre ++ B (8 * k + m)) ∧ Kp fix W v wr v') (fun j _ => ((intOf j) + 1).toNat)
      case atStart => exact ⟨0, v1, by omega, rfl, hS.out, hK.out⟩
      case round =>
        obtain ⟨m, v2, hm, rfl, hS1, hK1⟩ := hrel
        clear hS hK
        by_cases hlt2 : m < 8
        · obtain ⟨q, hq', hq8⟩ : ∃ q : Nat, (7 : Int) - m = (q : Int) ∧ m = 7 - q ∧ q < 8 := ⟨7 - m, by omega, by omega, by omega⟩
          have hbw := bit_walk t k q hq8.2
          have hx := run_idx t k k rfl hlt
          have hby := byt_bd t k
          have hsn2 := hid (hsn.out (8 * k + m))
          have hE : bitN t (8 * k + m) = bitN t (8 * k + (7 - q)) := by rw [hq8.1]
          rw [hE] at hsn2
          have hTX := hT.out _ (bitN_lt t (8 * k + (7 - q)))
          generalize bitN t (8 * k + (7 - q)) = X at *
          clear hE
          have hL1 : (pre ++ B (8 * k + m)).length < N := by rw [List.length_append, hlen.out]; omega
          obtain ⟨fn, tmps, assign, body, hy, hR⟩ := K.out.step (d + 1) (X : Int) hS1 hTX hL1
          have hqb := hK1.blk hq.out hf.out hn.out
          have x1 := hqb.cell
          have l1 := hqb.lt
          replace hR := hid hR
          replace hK1 := hid hK1
          have hq7 : (7 : Int) - ((m + 1 : Nat) : Int) = (q : Int) - 1 := by omega
          clear hS1 hqb hL1 hTX
          rw [hq']
          gi_wp2
          refine hR.out.mono ?_
          rintro e W3 ⟨rfl, v3, hS3, hK3⟩
          have hK4 := hid (hK1.out.trans hK3)
          have hS4 : Hid (S W3 v3 (pre ++ B (8 * k + (m + 1)))) := by
            have e1 : 8 * k + (m + 1) = 8 * k + m + 1 := by omega
            rw [e1, hsn2.out, ← List.append_assoc]
            exact hS3
          clear hS3 hK3 hy hR x1 hK1
          gi_wp2
          go_roundw
          case rel => exact ⟨m + 1, v3, by omega, by rw [hq7], hS4.out, hK4.out⟩
          case measure => simp [intOf] <;> omega
        · obtain rfl : m = 8 := by omega
          replace hS1 := hid hS1
          replace hK1 := hid hK1
          gi_wp2
          go_roundw
          case rel => exact ⟨k + 1, v2, by omega, by go_num, by rw [Nat.mul_add]; exact hS1.out, hK1.out⟩
          case measure => simp [intOf] <;> omega
    · obtain rfl : k = t.size := by omega
      replace hS := hid hS
      replace hK := hid hK
      gi_wp2
      exact bodyPost_end (v := .tuple #[]) (by simp [results, Tryd.results176]) rfl ⟨rfl, v1, hS.out, hK.out⟩
end Go.Proofs.YtifcdojaocndhaaDoor

/- The pulses of a block, one by one to whoever asks for them: the program's iterator, a round of the loop within it. -/
namespace Go.Proofs.YtifcdojaocndhaaDoor
open Go.ChangeShapes Go.WideShapes Go.ChangeAt Go.RowKit Go.Shelf
attribute [local go_sem] Oper.semAt_some
set_option linter.unusedVariables false
set_option linter.unusedSimpArgs false

def Tim (W : World) : Prop := W.cell? ⟨3, 0, none⟩ = some (.int .i64 20) ∧ W.cell? ⟨3, 1, none⟩ = some (.int .i64 40)
theorem Tim.kept {W W' : World} (h : Tim W) (e : W'.heap[3]? = W.heap[3]?) : Tim W' :=
  ⟨(World.cell?_of_block (a := ⟨3, 0, none⟩) e).trans h.1, (World.cell?_of_block (a := ⟨3, 1, none⟩) e).trans h.2⟩
abbrev bpAs : Code := .region 7 #[({ dst := some 3, op := Op.assign (Operand.tmp 26), type := 3, pos := "l10_pulse.go:72", after := #[], guard := none } : Oper)] false
abbrev bpBd : Code := Code.block 3 (Code.seq (.region 8 #[({ dst := some 27, op := Op.move (Operand.tmp 3), type := 3, pos := "l10_pulse.go:73", after := #[], guard := none } : Oper), ({ dst := some 28, op := Op.indexAddr 33 (Operand.global 3) (Operand.tmp 27), type := 0, pos := "l10_pulse.go:73", after := #[{ on := 0, ground := Ground.data }], guard := none } : Oper), ({ dst := some 29, op := Op.load 3 (Operand.tmp 28), type := 3, pos := "l10_pulse.go:73", after := #[{ on := 1, ground := Ground.data }], guard := none } : Oper), ({ dst := some 4, op := Op.assign (Operand.tmp 29), type := 3, pos := "l10_pulse.go:73", after := #[{ on := 2, ground := Ground.data }, { on := 0, ground := Ground.phase }, { on := 1, ground := Ground.phase }, { on := 2, ground := Ground.phase }], guard := none } : Oper)] false) (Code.seq (.region 9 #[({ dst := some 30, op := Op.load 114 (Operand.tmp 2), type := 114, pos := "l10_pulse.go:74", after := #[], guard := none } : Oper), ({ dst := some 31, op := Op.move (Operand.tmp 4), type := 3, pos := "l10_pulse.go:74", after := #[], guard := none } : Oper), ({ dst := some 32, op := Op.call { callee := Callee.value (Operand.tmp 30), args := #[Operand.tmp 31], argTypes := #[3] }, type := 4, pos := "l10_pulse.go:74", after := #[{ on := 0, ground := Ground.data }, { on := 1, ground := Ground.data }], guard := none } : Oper), ({ dst := some 33, op := Op.unOp UnOp.not 4 (Operand.tmp 32), type := 4, pos := "l10_pulse.go:74", after := #[{ on := 2, ground := Ground.data }], guard := none } : Oper), ({ dst := some 34, op := Op.move (Operand.tmp 33), type := 4, pos := "l10_pulse.go:74", after := #[{ on := 3, ground := Ground.data }, { on := 2, ground := Ground.chain }], guard := none } : Oper), ({ dst := some 35, op := Op.load 114 (Operand.tmp 2), type := 114, pos := "l10_pulse.go:74", after := #[{ on := 4, ground := Ground.guard }], guard := some (4, false) } : Oper), ({ dst := some 36, op := Op.move (Operand.tmp 4), type := 3, pos := "l10_pulse.go:74", after := #[{ on := 4, ground := Ground.guard }], guard := some (4, false) } : Oper), ({ dst := some 37, op := Op.call { callee := Callee.value (Operand.tmp 35), args := #[Operand.tmp 36], argTypes := #[3] }, type := 4, pos := "l10_pulse.go:74", after := #[{ on := 5, ground := Ground.data }, { on := 6, ground := Ground.data }, { on := 4, ground := Ground.chain }, { on := 4, ground := Ground.guard }], guard := some (4, false) } : Oper), ({ dst := some 38, op := Op.unOp UnOp.not 4 (Operand.tmp 37), type := 4, pos := "l10_pulse.go:74", after := #[{ on := 7, ground := Ground.data }, { on := 4, ground := Ground.guard }], guard := some (4, false) } : Oper), ({ dst := some 39, op := Op.pick (Operand.tmp 34) (Operand.const (Value.bool true)) (Operand.tmp 38), type := 4, pos := "l10_pulse.go:74", after := #[{ on := 4, ground := Ground.data }, { on := 8, ground := Ground.data }], guard := none } : Oper)] false) (.cond (.tmp 39) .ret .skip)))
abbrev bpT (a0 a1 a3 a4 a5 a6 a7 a8 a9 a10 a11 a12 a13 a14 a15 a16 a17 a18 a19 a20 a21 a22 a23 a24 a25 : Value) (V : Nat) (x : Value) : Array Value := #[a0, a1, .pointer (some ⟨V, 0, none⟩), a3, a4, a5, a6, a7, a8, a9, a10, a11, a12, a13, a14, a15, a16, a17, a18, a19, a20, a21, a22, a23, a24, a25, x, undef, undef, undef, undef, undef, undef, undef, undef, undef, undef, undef, undef, undef]
structure Pm where
  V : Nat
  DF : Nat
  L : Nat
  R : Loop
def Pm.bs (p : Pm) : List Nat := [p.V, p.DF, p.L]
/-- between two rounds of the loop over the bits -/
structure Sm (base : Nat) (S : World → Value → List Int → Prop) (Y : Nat) (p : Pm) (pre : List Int) (W : World) (v : Value) (acc : List Int) : Prop where
  s : S W v (pre ++ dbl acc)
  box : Blk W p.V #[.func (.yield Y) #[] #[]]
  df : W.heap[p.DF]? = some (.deferred (some []))
  lp : W.heap[p.L]? = some (.loop p.R)
  ne : ∀ b, b ∈ p.bs → v.ownBlock ≠ some b
  tim : Tim W
structure Pm.Sep (p : Pm) (base : Nat) (fix : List Nat) : Prop where
  nd : p.V ≠ p.DF ∧ p.V ≠ p.L ∧ p.DF ≠ p.L
  far : ∀ b, b ∈ p.bs → base ≤ b ∧ b ∉ fix
theorem Pm.mem (p : Pm) : p.V ∈ p.bs ∧ p.DF ∈ p.bs ∧ p.L ∈ p.bs := by simp [Pm.bs]
set_option maxRecDepth 100000 in
set_option maxHeartbeats 4000000 in
theorem bp_sink {base Y N : Nat} {fix : List Nat} {S : World → Value → List Int → Prop} (K : Sink base Y fix (fun _ => True) N S) (p : Pm) (hp : p.Sep base fix) (hg : 3 < base) (pre : List Int) (M : Nat) (hM : pre.length + 2 * M ≤ N)
    (fn : FuncId) (a0 a1 a3 a4 a5 a6 a7 a8 a9 a10 a11 a12 a13 a14 a15 a16 a17 a18 a19 a20 a21 a22 a23 a24 a25 : Value) (hR : p.R = { state := .ready, pending := none, fn := fn, tmps := bpT a0 a1 a3 a4 a5 a6 a7 a8 a9 a10 a11 a12 a13 a14 a15 a16 a17 a18 a19 a20 a21 a22 a23 a24 a25 p.V undef, params := #[26], assign := bpAs, body := bpBd, defers := p.DF }) :
    Sink base p.L (p.bs ++ fix) (fun x => x = 0 ∨ x = 1) M (Sm base S Y p pre) := by
  obtain ⟨m1, m2, m3⟩ := p.mem
  obtain ⟨n1, n2, n3⟩ := hp.nd
  refine ⟨fun h k => ?_, fun h => ?_, fun m W v acc x h hx hlen => ?_⟩
  · have k2 : SameOn base fix _ _ _ := ⟨k.os, k.tape, k.output, k.size, k.low, fun b hb => k.fix b (List.mem_append_right _ hb), k.own⟩
    refine ⟨K.cong h.s k2, ?_, (k.fix _ (List.mem_append_left _ m2)).trans h.df, (k.fix _ (List.mem_append_left _ m3)).trans h.lp, h.ne, h.tim.kept (k.low _ hg)⟩
    obtain ⟨t, hq⟩ := h.box
    exact ⟨t, (k.fix _ (List.mem_append_left _ m1)).trans hq⟩
  · obtain ⟨c1, c2, c3⟩ := K.lt h.s
    refine ⟨fun b hb => ?_, c2, c3⟩
    rcases List.mem_append.1 hb with hb | hb
    · refine ⟨(hp.far b hb).1, ?_⟩
      have hb' : b ∈ [p.V, p.DF, p.L] := hb
      simp only [List.mem_cons, List.not_mem_nil, or_false] at hb'
      rcases hb' with rfl | rfl | rfl
      · exact h.box.lt
      · exact (Array.getElem?_eq_some_iff.1 h.df).1
      · exact (Array.getElem?_eq_some_iff.1 h.lp).1
    · exact c1 b hb
  · refine YieldAt.any (k := 3) ?_
    have hLp := h.lp
    have hLlt : p.L < W.heap.size := (Array.getElem?_eq_some_iff.1 hLp).1
    have hy := run_yield (P := Tryd.prog) (args := #[.int .i64 x]) hLp (by rw [hR]; rfl)
    rw [hR] at hy
    have e : Array.foldl (fun (tmps : Array Value) (x : Tmp × Value) => match x with | (t, a) => tmps.setIfInBounds t a) (bpT a0 a1 a3 a4 a5 a6 a7 a8 a9 a10 a11 a12 a13 a14 a15 a16 a17 a18 a19 a20 a21 a22 a23 a24 a25 p.V undef) ((#[26] : Array Tmp).zip #[.int .i64 x]) = bpT a0 a1 a3 a4 a5 a6 a7 a8 a9 a10 a11 a12 a13 a14 a15 a16 a17 a18 a19 a20 a21 a22 a23 a24 a25 p.V (.int .i64 x) := by simp
    dsimp only at hy
    rw [e] at hy
    clear e
    refine ⟨fn, _, bpAs, bpBd, hy, roundIn_of_wpIn (F := Fence.wide) trivial ?_⟩
    clear hy
    have hbr := run_beginRound (P := Tryd.prog) hLp (by rw [hR])
    obtain ⟨Wb, hWb⟩ : ∃ Wb, W.putObj p.L (.loop { p.R with state := .busy }) = Wb := ⟨_, rfl⟩
    rw [hWb] at hbr
    have kb : ∀ b, b ≠ p.L → Wb.heap[b]? = W.heap[b]? := fun b hb => by rw [← hWb, World.putObj_heap_other (by omega)]
    have sb : Wb.heap.size = W.heap.size := by rw [← hWb]; simp [World.putObj]
    have lb : Wb.heap[p.L]? = some (.loop { p.R with state := .busy }) := by rw [← hWb]; exact World.putObj_heap_same hLlt
    have so : SameOn base fix v W Wb := ⟨by rw [← hWb]; rfl, by rw [← hWb]; rfl, by rw [← hWb]; rfl, by omega, fun b hb => kb b (fun e => by have := (hp.far _ m3).1; omega), fun b hb => kb b (fun e => (hp.far _ m3).2 (e ▸ hb)), fun g e => kb g (fun e2 => h.ne _ m3 (e2 ▸ e))⟩
    have hSb := K.cong h.s so
    have qb : Blk Wb p.V #[.func (.yield Y) #[] #[]] := by
      obtain ⟨t, hq⟩ := h.box
      exact ⟨t, (kb _ n2).trans hq⟩
    have tb := h.tim.kept (kb _ (by have := (hp.far _ m3).1; omega))
    have hLl : (pre ++ dbl acc).length < N := by rw [List.length_append, dbl_len]; omega
    have hLl2 : (pre ++ dbl acc ++ [pulB x]).length < N := by rw [List.length_append, List.length_append, dbl_len]; show _ + 1 < N; omega
    obtain ⟨fn1, tm1, as1, bo1, hy1, hR1⟩ := K.step 2 (pulB x) hSb trivial hLl
    have x0 : Wb.cell? ⟨3, x.toNat, none⟩ = some (.int .i64 (pulB x)) := by
      rcases hx with rfl | rfl
      · exact tb.1
      · exact tb.2
    have hxn : x = ((x.toNat : Nat) : Int) ∧ x.toNat < 2 := by omega
    obtain ⟨xn, hxx⟩ : ∃ n, x.toNat = n := ⟨_, rfl⟩
    rw [hxx] at x0 hxn
    obtain ⟨pv, hpv⟩ : ∃ n, pulB x = n := ⟨_, rfl⟩
    rw [hpv] at x0 hy1 hR1 hLl2
    have q0 := qb.cell
    have l0 := qb.lt
    have hfin : Hid (∀ W1 v1, S W1 v1 (pre ++ dbl acc ++ [pv]) → Kp fix Wb v W1 v1 → Blk W1 p.V #[.func (.yield Y) #[] #[]] ∧ ∀ W2 v2, S W2 v2 (pre ++ dbl acc ++ [pv] ++ [pv]) → Kp fix W1 v1 W2 v2 → ∃ vv W', (Instr.endRound p.L none).run Tryd.prog W2 = .ok vv W' ∧ vv = .bool true ∧ Sm base S Y p pre W' v2 (acc ++ [x]) ∧ Kp (p.bs ++ fix) W v W' v2) := by
      intro W1 v1 hS1 hK1
      have f1 := (hp.far _ m1).2
      refine ⟨hK1.blk qb f1 (h.ne _ m1), fun W2 v2 hS2 hK2 => ?_⟩
      have hK := hK1.trans hK2
      have k2 : ∀ b, b ∈ p.bs → W2.heap[b]? = Wb.heap[b]? := fun b hb => by
        refine hK.same b ?_ (hp.far _ hb).2 (h.ne _ hb)
        have hb' : b ∈ [p.V, p.DF, p.L] := hb
        simp only [List.mem_cons, List.not_mem_nil, or_false] at hb'
        rcases hb' with rfl | rfl | rfl
        · exact qb.lt
        · rw [sb]; exact (Array.getElem?_eq_some_iff.1 h.df).1
        · rw [sb]; exact hLlt
      have hl2 := (k2 _ m3).trans lb
      have her := run_endRound (P := Tryd.prog) none hl2
      have hl2t : p.L < W2.heap.size := (Array.getElem?_eq_some_iff.1 hl2).1
      refine ⟨_, _, her, rfl, ?_, ?_⟩
      · obtain ⟨W9, hW9⟩ : ∃ W9, W2.putObj p.L (.loop { { p.R with state := LoopState.busy } with state := .ready, pending := none }) = W9 := ⟨_, rfl⟩
        have k9 : ∀ b, b ≠ p.L → W9.heap[b]? = W2.heap[b]? := fun b hb => by rw [← hW9, World.putObj_heap_other (by omega)]
        have hne2 : ∀ b, b ∈ p.bs → v2.ownBlock ≠ some b := fun b hb => hK.ne (by
          have hb' : b ∈ [p.V, p.DF, p.L] := hb
          simp only [List.mem_cons, List.not_mem_nil, or_false] at hb'
          rcases hb' with rfl | rfl | rfl
          · exact qb.lt
          · rw [sb]; exact (Array.getElem?_eq_some_iff.1 h.df).1
          · rw [sb]; exact hLlt) (h.ne _ hb)
        have so9 : SameOn base fix v2 W2 W9 := ⟨by rw [← hW9]; rfl, by rw [← hW9]; rfl, by rw [← hW9]; rfl, by rw [← hW9]; simp [World.putObj], fun b hb => k9 b (fun e => by have := (hp.far _ m3).1; omega), fun b hb => k9 b (fun e => (hp.far _ m3).2 (e ▸ hb)), fun g e => k9 g (fun e2 => hne2 _ m3 (e2 ▸ e))⟩
        show Sm base S Y p pre (W2.putObj p.L _) v2 (acc ++ [x])
        have hW9' := hW9
        refine (?_ : Sm base S Y p pre W9 v2 (acc ++ [x])) |> fun hh => by first | exact hW9 ▸ hh | (rw [← hW9] at hh; exact hh)
        have qbk : Blk W9 p.V #[.func (.yield Y) #[] #[]] := by
          obtain ⟨t, hq⟩ := qb
          exact ⟨t, ((k9 _ n2).trans (k2 _ m1)).trans hq⟩
        have hgl : 3 < Wb.heap.size := by
          have := World.block_lt_of_cell? Wb _ tb.1
          exact this
        have hgf : 3 ∉ fix := fun hb => by have := ((K.lt hSb).1 _ hb).1; omega
        have hgo : v.ownBlock ≠ some 3 := fun e => by have := ((K.lt hSb).2.1 _ e).1; omega
        refine ⟨?_, qbk, ((k9 _ n3).trans (k2 _ m2)).trans ((kb _ n3).trans h.df), ?_, hne2, tb.kept ((k9 _ (by have := (hp.far _ m3).1; omega)).trans (hK.same _ hgl hgf hgo))⟩
        · rw [dbl_snoc, hpv, ← List.append_assoc]
          refine K.cong ?_ so9
          simpa using hS2
        · rw [← hW9, World.putObj_heap_same hl2t]
          rw [hR]
      · refine ⟨?_, fun b hb hf ho => ?_, ?_⟩
        · have := hK.size
          rw [sb] at this
          have e9 : ∀ o, (W2.putObj p.L o).heap.size = W2.heap.size := fun o => by simp [World.putObj]
          rw [e9]
          exact this
        · have hbL : b ≠ p.L := fun e => hf (List.mem_append_left _ (e ▸ m3))
          rw [World.putObj_heap_other (by omega), hK.same b (by omega) (fun hm => hf (List.mem_append_right _ hm)) ho, kb b hbL]
        · rcases hK.own with e | ⟨g, e, hl⟩
          · exact .inl e
          · exact .inr ⟨g, e, by omega⟩
    replace hR1 := hid hR1
    replace hR := hid hR
    have hbr2 := hid hbr
    have hst : Hid (∀ W1 v1, S W1 v1 (pre ++ dbl acc ++ [pv]) → YieldAt Fence.wide 2 Tryd.prog Y #[.int .i64 pv] W1 fun e W' => e = .returned (.bool true) ∧ ∃ v', S W' v' (pre ++ dbl acc ++ [pv] ++ [pv]) ∧ Kp fix W1 v1 W' v') := fun W1 v1 h1 => K.step 2 pv h1 trivial hLl2
    clear hbr hWb kb sb lb so hSb qb tb hLl hLl2 hLp hLlt h hlen n1 n2 n3 m1 m2 m3 hpv hxx
    replace hfin := hid hfin
    obtain ⟨hxa, hxb⟩ := hxn
    subst hxa
    dsimp only [bpAs, bpBd, bpT]
    gi_wp2
    refine ⟨_, hbr2.out, ?_⟩
    gi_wp2
    refine hR1.out.mono ?_
    rintro e W1 ⟨rfl, v1, hS1, hK1⟩
    obtain ⟨qv, hfin2⟩ := hfin.out.out W1 v1 hS1 hK1
    obtain ⟨fn2, tm2, as2, bo2, hy2, hR2⟩ := hst.out W1 v1 hS1
    have q1 := qv.cell
    have l1 := qv.lt
    replace hfin2 := hid hfin2
    replace hR2 := hid hR2
    clear hfin hR1 hy1 q0 l0 x0 qv hS1 hK1 hst
    gi_wp2
    refine hR2.out.mono ?_
    rintro e W2 ⟨rfl, v2, hS2, hK2⟩
    obtain ⟨vv, W9, hend, hvv, hC⟩ := hfin2.out W2 v2 hS2 hK2
    replace hC := hid hC
    replace hend := hid hend
    clear hfin2 hR2 hy2 q1 l1 hS2 hK2
    gi_wp2
    exact ⟨vv, W9, hend.out, by rw [hvv], v2, hC.out⟩
end Go.Proofs.YtifcdojaocndhaaDoor
