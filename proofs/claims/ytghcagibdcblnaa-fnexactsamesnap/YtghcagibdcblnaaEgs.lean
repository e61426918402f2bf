/- SnapText: the specification. -/
import Derived.Test.YtghcagibdcblnaaEfs
namespace Go.Proofs.Ytghcagibdcblnaa
open Go.ChangeShapes Go.WideShapes Go.ChangeAt Go.RowKit
set_option linter.unusedVariables false
set_option linter.unusedSimpArgs false

def sntext2 (s : Sn) : ByteArray × Int := if okSn s = true then (strOfNums (snapL s.c s.m s.p), 0) else (⟨#[]⟩, 1)
theorem sn_all {W : World} {b : Nat} {s : Sn} {vr vm : Value} (h : Blk W b (snA s vr vm)) : W.rangeAt b 0 (snA s vr vm).toList := blk_range h [] _ [] (by simp)
theorem szS (s : Sn) (vr vm : Value) : (Try.prog.info? 39).map (·.size) = some (snA s vr vm).toList.length := by
  show _ = some 31
  kernel_rfl
set_option maxRecDepth 100000 in
set_option maxHeartbeats 1000000 in
theorem sntext_spec (v : Value) (s : Sn) (w : World) (h : SnR w v s) (hl : s.m.rom.length ≤ 1000000000) (hm : s.m.ram.length ≤ 1000000000) (hr : ∀ i, i < s.m.ram.length → (s.m.ram.getD i []).length ≤ 1000000000) :
    Calls Try.prog 11 #[v] w fun e w' => e = .returned (.tuple #[.string (sntext2 s).1, .int .i64 (sntext2 s).2]) ∧ Below w.heap.size w w' := by
  have hS := h
  obtain ⟨vr, vm, rfl, hv⟩ := h
  have hB := hid ((Below.refl w.heap.size w).alloc (Nat.le_refl _) (.cells (snA s vr vm) 39))
  have q := hid (Blk.new w (snA s vr vm) 39)
  have hO := hid (fun w1 (hb : Below w.heap.size w w1) => snok_spec (.agg (snA s vr vm)) s w1 (hS.below hb) hl hm hr)
  have hT := hid (fun w1 (hb : Below w.heap.size w w1) (hk : okSn s = true) => ltext13_spec (.agg (snA s vr vm)) s w1 (hS.below hb) hk)
  clear hS hv
  cases hc : okSn s
  · have e : sntext2 s = (⟨#[]⟩, 1) := by unfold sntext2; rw [hc]; rfl
    rw [e]
    rw [hc] at hO
    clear e hT
    go_enter Try.func11, Try.ntmps11
    go_upto_region 1 with fail
    obtain ⟨V, hV⟩ : ∃ V, w.alloc (Obj.cells (snA s vr vm) 39) = V := ⟨_, rfl⟩
    rw [hV] at hB q ⊢
    clear hV
    have x1 := hid (sn_all q.out)
    go_wp2_with (refine wpList_load_mid rfl 39 _ rfl w.heap.size 0 rfl (snA s vr vm).toList _ x1.out Try.underlying39 rfl (szS s vr vm) ?_)
    refine (hO.out _ hB.out).mono ?_
    rintro e w1 ⟨rfl, hb⟩
    have hB1 := hid (new_trans hB.out hb)
    clear hb hB q x1
    go_wp2_with fail
    go_ret2
    exact ⟨rfl, hB1.out⟩
  · have e : sntext2 s = (strOfNums (snapL s.c s.m s.p), 0) := by unfold sntext2; rw [hc]; rfl
    rw [e]
    rw [hc] at hO
    clear e
    generalize strOfNums (snapL s.c s.m s.p) = X at *
    go_enter Try.func11, Try.ntmps11
    go_upto_region 1 with fail
    obtain ⟨V, hV⟩ : ∃ V, w.alloc (Obj.cells (snA s vr vm) 39) = V := ⟨_, rfl⟩
    rw [hV] at hB q ⊢
    clear hV
    have x1 := hid (sn_all q.out)
    go_wp2_with (refine wpList_load_mid rfl 39 _ rfl w.heap.size 0 rfl (snA s vr vm).toList _ x1.out Try.underlying39 rfl (szS s vr vm) ?_)
    refine (hO.out _ hB.out).mono ?_
    rintro e w1 ⟨rfl, hb⟩
    have hB1 := hid (new_trans hB.out hb)
    have q1 := hid (q.out.below hb q.out.lt)
    clear hb hB q x1
    have x2 := hid (sn_all q1.out)
    go_wp2_with (refine wpList_load_mid rfl 39 _ rfl w.heap.size 0 rfl (snA s vr vm).toList _ x2.out Try.underlying39 rfl (szS s vr vm) ?_)
    refine (hT.out _ hB1.out hc).mono ?_
    rintro e w2 ⟨rfl, hb⟩
    have hB2 := hid (new_trans hB1.out hb)
    clear hb hB1 q1 x2
    go_wp2_with fail
    go_ret2
    exact ⟨rfl, hB2.out⟩
end Go.Proofs.Ytghcagibdcblnaa
