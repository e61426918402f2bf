/- A processor's text: the program. -/
import Derived.Test.YtneagomkohoceaaDoorTxp
import Derived.Test.YtneagomkohoceaaDoorTxe
import Derived.Test.YtneagomkohoceaaDoorCpf
import Derived.Deep.MidRow
namespace Go.Proofs.YtneagomkohoceaaDoor
open Go.ChangeShapes Go.WideShapes Go.ChangeAt Go.RowKit
set_option linter.unusedVariables false
set_option linter.unusedSimpArgs false

def regP (c : Cu) : Nat → List ByteArray
  | 0 => []
  | i + 1 => if i = 6 then regP c i else regP c i ++ [rgW i ++ hxB (c.reg i)]
def onB (b : Bool) (x : ByteArray) : ByteArray := if b = true then x else ⟨#[]⟩
def cpuWs (c : Cu) : List ByteArray := regP c 8 ++ [⟨#[102]⟩ ++ hxB c.f, ⟨#[115, 112]⟩ ++ hxB c.sp, ⟨#[112, 99]⟩ ++ hxB c.pc] ++ [onB c.iff ⟨#[101, 105]⟩, onB c.halt ⟨#[104, 97, 108, 116]⟩]
theorem said_app (a b : List ByteArray) : saidL (a ++ b) = saidL a ++ saidL b := List.filter_append ..
theorem ne_size {x : ByteArray} (h : 0 < x.size) : x ≠ ⟨#[]⟩ := fun e => by rw [e] at h; exact absurd h (by decide)
theorem cpu_line (c : Cu) : lineB (cpuWs c) = txC c := by
  have hr : regP c 8 = [rgW 0 ++ hxB c.r0, rgW 1 ++ hxB c.r1, rgW 2 ++ hxB c.r2, rgW 3 ++ hxB c.r3, rgW 4 ++ hxB c.r4, rgW 5 ++ hxB c.r5, rgW 7 ++ hxB c.r7] := rfl
  have hsP : spT c 8 = ((((((((⟨#[]⟩ : ByteArray) ++ (rgW 0 ++ hxB c.r0 ++ ⟨#[32]⟩)) ++ (rgW 1 ++ hxB c.r1 ++ ⟨#[32]⟩)) ++ (rgW 2 ++ hxB c.r2 ++ ⟨#[32]⟩)) ++ (rgW 3 ++ hxB c.r3 ++ ⟨#[32]⟩)) ++ (rgW 4 ++ hxB c.r4 ++ ⟨#[32]⟩)) ++ (rgW 5 ++ hxB c.r5 ++ ⟨#[32]⟩)) ++ (rgW 7 ++ hxB c.r7 ++ ⟨#[32]⟩)) := rfl
  have h1 : saidL (regP c 8 ++ [⟨#[102]⟩ ++ hxB c.f, ⟨#[115, 112]⟩ ++ hxB c.sp, ⟨#[112, 99]⟩ ++ hxB c.pc]) = regP c 8 ++ [⟨#[102]⟩ ++ hxB c.f, ⟨#[115, 112]⟩ ++ hxB c.sp, ⟨#[112, 99]⟩ ++ hxB c.pc] := by
    refine said_all _ (fun x hx => ?_)
    rw [hr] at hx
    simp only [List.cons_append, List.nil_append, List.mem_cons, List.not_mem_nil, or_false] at hx
    rcases hx with rfl | rfl | rfl | rfl | rfl | rfl | rfl | rfl | rfl | rfl
    all_goals
      refine ne_size ?_
      rw [ByteArray.size_append, hxB_size]
      omega
  unfold lineB cpuWs
  rw [said_app, h1, hr]
  unfold txC txB1 txA joinB
  rw [hsP]
  apply ByteArray.ext
  cases c.iff <;> cases c.halt <;> simp [onB, saidL, Lib.join_cons, Lib.joinTail, ByteArray.data_append]
theorem own_cellsX {W : World} {lo : Nat} {v : Value} {ws : List ByteArray} (h : W.ownsRow lo 9 1 v ws.length (ws.map Value.string)) (hn : 0 < ws.length) : ∃ g c, v = .slice (some ⟨g, 0, none⟩) ws.length c ∧ lo ≤ g ∧ g < W.heap.size ∧ ws.length ≤ c ∧ ∀ (i : Nat) x, ws[i]? = some x → W.cell? ⟨g, i, none⟩ = some (.string x) := by
  obtain ⟨g, c, rfl, h1, h2⟩ := h.form hn
  refine ⟨g, c, rfl, h1, h2, ?_, fun i x hx => ?_⟩
  · rcases h.2 with ⟨h0, _⟩ | ⟨g', cap', cur, hv', _, _, hc, _⟩
    · cases h0
    · injection hv' with _ _ e
      omega
  have hi := (List.getElem?_eq_some_iff.1 hx).1
  rw [h.cellAt i (by omega), List.getElem?_map, hx]
  rfl
theorem regP_len (c : Cu) : ∀ j, j ≤ 8 → (regP c j).length ≤ j
  | 0, _ => Nat.le_refl 0
  | j + 1, h => by
    have ih := regP_len c j (by omega)
    unfold regP
    split
    · omega
    · rw [List.length_append]; simp; omega
theorem cpuWs_size (c : Cu) : (cpuWs c).length ≤ 1000 ∧ ∀ x ∈ cpuWs c, x.size ≤ 1000 := by
  refine ⟨?_, fun x hx => ?_⟩
  · have := regP_len c 8 (Nat.le_refl _)
    unfold cpuWs
    simp only [List.length_append, List.length_cons, List.length_nil]
    omega
  · unfold cpuWs at hx
    have hr : regP c 8 = [rgW 0 ++ hxB c.r0, rgW 1 ++ hxB c.r1, rgW 2 ++ hxB c.r2, rgW 3 ++ hxB c.r3, rgW 4 ++ hxB c.r4, rgW 5 ++ hxB c.r5, rgW 7 ++ hxB c.r7] := rfl
    rw [hr] at hx
    have hs : ∀ (i : Nat) v, i < 8 → (rgW i ++ hxB v).size ≤ 1000 := fun i v hi => by
      rw [ByteArray.size_append, hxB_size]
      have := rgW_size i hi
      omega
    have ho : ∀ (b : Bool) (x : ByteArray), x.size ≤ 4 → (onB b x).size ≤ 1000 := fun b x h => by
      unfold onB
      split
      · omega
      · decide
    simp only [List.cons_append, List.nil_append, List.mem_cons, List.not_mem_nil, or_false] at hx
    rcases hx with rfl | rfl | rfl | rfl | rfl | rfl | rfl | rfl | rfl | rfl | rfl | rfl
    · exact hs 0 _ (by omega)
    · exact hs 1 _ (by omega)
    · exact hs 2 _ (by omega)
    · exact hs 3 _ (by omega)
    · exact hs 4 _ (by omega)
    · exact hs 5 _ (by omega)
    · exact hs 7 _ (by omega)
    · rw [ByteArray.size_append, hxB_size]; decide
    · rw [ByteArray.size_append, hxB_size]; decide
    · rw [ByteArray.size_append, hxB_size]; decide
    · exact ho _ _ (by decide)
    · exact ho _ _ (by decide)
theorem eitherQ_impl (on : Bool) (x : ByteArray) (w : World) : Calls Tryd.prog 78 #[.bool on, .string x, .string ⟨#[]⟩] w fun e w' => e = .returned (.string (onB on x)) ∧ w' = w := by
  cases on
  all_goals
    go_enter Tryd.func78, Tryd.ntmps78
    go_wp2
    go_ret
    exact ⟨rfl, rfl⟩
def RgWs (w : World) : Prop := ∀ i, i < 8 → w.cell? ⟨1, i, none⟩ = some (.string (rgW i))
theorem RgWs.up {w w' : World} (h : RgWs w) (hb : Below w.heap.size w w') : RgWs w' := fun i hi => cellX_kept hb (h i hi)
def rgwA : Array Value := #[.string (rgW 0), .string (rgW 1), .string (rgW 2), .string (rgW 3), .string (rgW 4), .string (rgW 5), .string (rgW 6), .string (rgW 7)]
set_option maxRecDepth 100000 in
set_option maxHeartbeats 4000000 in
theorem cline_impl (c : Cu) (w : World) (hok : okC c = true) (hRg : RgWs w) : Calls Tryd.prog 55 #[cuV c] w fun e w' => e = .returned (.string (lineB (cpuWs c))) ∧ Below w.heap.size w w' := by
  obtain ⟨i0, hi0, hz0, hz1, hz2⟩ := info_parts infoStr
  have hb0 := hid ((Below.refl w.heap.size w).alloc (Nat.le_refl _) (.cells (cuA c) 52))
  have hq0 := hid (Blk.new w (cuA c) 52)
  obtain ⟨hr, hf, hs, hp⟩ := okC_bd hok
  clear hok
  have hR : Hid (∀ k, k < 8 → ∀ W, Calls Tryd.prog 72 #[.int .i64 (c.reg k)] W fun e w' => e = .returned (.string (hxB (c.reg k))) ∧ Below W.heap.size W w') := fun k hk W => hexb_impl _ W (hr k hk).1 (hr k hk).2
  have hF := hid (fun W => hexb_impl c.f W hf.1 hf.2)
  have hS := hid (fun W => hexb_impl c.sp W hs.1 hs.2)
  have hP := hid (fun W => hexb_impl c.pc W hp.1 hp.2)
  have hI := hid (fun W => eitherQ_impl c.iff ⟨#[101, 105]⟩ W)
  have hH := hid (fun W => eitherQ_impl c.halt ⟨#[104, 97, 108, 116]⟩ W)
  have hWs : Hid (regP c 8 ++ [⟨#[102]⟩ ++ hxB c.f, ⟨#[115, 112]⟩ ++ hxB c.sp, ⟨#[112, 99]⟩ ++ hxB c.pc] ++ [onB c.iff ⟨#[101, 105]⟩, onB c.halt ⟨#[104, 97, 108, 116]⟩] = cpuWs c) := rfl
  have hWl := hid (cpuWs_size c)
  have hlP := hid (regP_len c)
  have hsz := hid (And.intro (hxB_size c.f) (And.intro (hxB_size c.sp) (hxB_size c.pc)))
  have hrow : Hid ((w.alloc (.cells (cuA c) 52)).rangeAt 1 0 rgwA.toList) := by
    have h := hRg.up hb0.out
    intro j v hv
    have hj : j < 8 := (List.getElem?_eq_some_iff.1 hv).1
    rw [Nat.zero_add, h j hj]
    rw [← hv]
    match j, hj with
    | 0, _ => rfl
    | 1, _ => rfl
    | 2, _ => rfl
    | 3, _ => rfl
    | 4, _ => rfl
    | 5, _ => rfl
    | 6, _ => rfl
    | 7, _ => rfl
  clear hRg hr hf hs hp
  go_enter Tryd.func55, Tryd.ntmps55
  go_upto_region 2 with fail
  go_wp2_with (refine wpList_load_mid rfl 113 _ rfl 1 0 rfl rgwA.toList _ hrow.out Tryd.underlying113 rfl (by kernel_rfl) ?_)
  go_loopw [3, 7] (fun v i wr => ∃ j : Nat, j ≤ 8 ∧ i = .int .i64 j ∧ wr.ownsRow (w.heap.size + 1) 9 1 v (regP c j).length ((regP c j).map Value.string) ∧ Blk wr w.heap.size (cuA c) ∧ Below w.heap.size w wr) (fun _ i _ => 8 - (intOf i).toNat)
  case atStart => exact ⟨0, by omega, rfl, World.ownsRow_nil _ _ _ _, hq0.out, hb0.out⟩
  case round =>
    obtain ⟨j, hj, rfl, hown, hq, hb⟩ := hrel
    clear hrow
    have hq : Hid (Blk wr w.heap.size (cuA c) ∧ Below w.heap.size w wr) := ⟨hq, hb⟩
    clear hb
    by_cases hlt : j < 8
    · have hj8 : j = 0 ∨ j = 1 ∨ j = 2 ∨ j = 3 ∨ j = 4 ∨ j = 5 ∨ j = 6 ∨ j = 7 := by omega
      have hml := hlP.out j (by omega)
      have hX := hid (hR.out j hlt)
      clear hR hF hS hP hI hH hWs hWl hlP hsz
      rcases hj8 with rfl | rfl | rfl | rfl | rfl | rfl | rfl | rfl
      · have hix : ∀ W : World, (Instr.index 113 (.agg rgwA.toList.toArray) (.int .i64 0)).run Tryd.prog W = .ok (.string (rgW 0)) W := fun W => by kernel_rfl
        have hN : Hid (∀ (W : World) v', W.ownsRow (w.heap.size + 1) 9 1 v' ((regP c 0).length + 1) ((regP c 0).map Value.string ++ [.string (rgW 0 ++ hxB c.r0)]) → W.ownsRow (w.heap.size + 1) 9 1 v' (regP c 1).length ((regP c 1).map Value.string)) := fun W v' h => by
          have e : regP c 1 = regP c 0 ++ [rgW 0 ++ hxB c.r0] := rfl
          rw [e, List.length_append, List.map_append]
          exact h
        have hX2 : Hid (∀ W, Calls Tryd.prog 72 #[.int .i64 c.r0] W fun e w' => e = .returned (.string (hxB c.r0)) ∧ Below W.heap.size W w') := hX
        have hs1 := rgW_size 0 (by omega)
        have hs2 := hxB_size c.r0
        have y0 := hq.out.1.cell
        have hzl := hq.out.1.lt
        clear hX
        generalize rgW 0 = RW at *
        generalize hxB c.r0 = HX at *
        generalize (regP c 0).length = m at *
        generalize (regP c 0).map Value.string = M at *
        have z1 : ¬ 9223372036854775807 < RW.size + HX.size := by omega
        have z2 : ¬ 9223372036854775807 < RW.size + 2 := by omega
        have hB2 : Hid (∀ W o w2, Blk W w.heap.size (cuA c) → Below w.heap.size w W → W.ownsRow (w.heap.size + 1) 9 1 u3 m M → (W.alloc o).grownBy w2 u3.ownBlock → Blk w2 w.heap.size (cuA c) ∧ Below w.heap.size w w2) := fun W o w2 h1 h2 h3 hg =>
          ⟨(h1.alloc o).grown hg (fun e => by have := (h3.lt _ e.symm).1; omega), (h2.alloc h2.size o).grown hg (by have := h2.size; simp; omega) (fun k hk => by have := (h3.lt k hk).1; omega)⟩
        replace hown := hid hown
        go_wp2_with (first | (go_at_call 72; refine (hX2.out _).mono ?_; rintro e W2 ⟨rfl, hb2⟩; have hq2 := hid (And.intro (hq.out.1.below hb2 hq.out.1.lt) (new_trans hq.out.2 hb2)); have hown2 := hid (ownX_below hown.out hb2); have hzl2 := hq2.out.1.lt; clear hb2 hown hq y0 hX2) | (at_builtin; refine wpList_append_lies _ rfl _ _ 37 rfl (w.heap.size + 1) 9 i0 _ 1 16 Tryd.underlying37 hi0 hz0 hz1 hz2 rfl (by omega) _ m M rfl (hown2.out.alloc _) ⟨_, 0, none⟩ 1 1 [.string (RW ++ HX)] rfl rfl (World.news_of_block (cs := #[.string (RW ++ HX)]) (t := 9) (fr := (0, 0)) (heap_alloc_new _ _)) (by simp [Value.oneCell']) (by omega) (by unfold maxLen; omega) (by omega) (by rw [World.size_alloc]; omega) _ rfl ?_; intro g2 c2 w3 ho hg hat hlt2; have hB3 := hid (hB2.out _ _ _ hq2.out.1 hq2.out.2 hown2.out hg); have hO3 := hid (hN.out _ _ ho); clear ho hg hat hlt2 hown2 hB2 hN hq2))
        go_roundw
        case rel => exact ⟨1, by omega, by go_num, hO3.out, hB3.out.1, hB3.out.2⟩
        case measure => simp [intOf]
      · have hix : ∀ W : World, (Instr.index 113 (.agg rgwA.toList.toArray) (.int .i64 1)).run Tryd.prog W = .ok (.string (rgW 1)) W := fun W => by kernel_rfl
        have hN : Hid (∀ (W : World) v', W.ownsRow (w.heap.size + 1) 9 1 v' ((regP c 1).length + 1) ((regP c 1).map Value.string ++ [.string (rgW 1 ++ hxB c.r1)]) → W.ownsRow (w.heap.size + 1) 9 1 v' (regP c 2).length ((regP c 2).map Value.string)) := fun W v' h => by
          have e : regP c 2 = regP c 1 ++ [rgW 1 ++ hxB c.r1] := rfl
          rw [e, List.length_append, List.map_append]
          exact h
        have hX2 : Hid (∀ W, Calls Tryd.prog 72 #[.int .i64 c.r1] W fun e w' => e = .returned (.string (hxB c.r1)) ∧ Below W.heap.size W w') := hX
        have hs1 := rgW_size 1 (by omega)
        have hs2 := hxB_size c.r1
        have y0 := hq.out.1.cell
        have hzl := hq.out.1.lt
        clear hX
        generalize rgW 1 = RW at *
        generalize hxB c.r1 = HX at *
        generalize (regP c 1).length = m at *
        generalize (regP c 1).map Value.string = M at *
        have z1 : ¬ 9223372036854775807 < RW.size + HX.size := by omega
        have z2 : ¬ 9223372036854775807 < RW.size + 2 := by omega
        have hB2 : Hid (∀ W o w2, Blk W w.heap.size (cuA c) → Below w.heap.size w W → W.ownsRow (w.heap.size + 1) 9 1 u3 m M → (W.alloc o).grownBy w2 u3.ownBlock → Blk w2 w.heap.size (cuA c) ∧ Below w.heap.size w w2) := fun W o w2 h1 h2 h3 hg =>
          ⟨(h1.alloc o).grown hg (fun e => by have := (h3.lt _ e.symm).1; omega), (h2.alloc h2.size o).grown hg (by have := h2.size; simp; omega) (fun k hk => by have := (h3.lt k hk).1; omega)⟩
        replace hown := hid hown
        go_wp2_with (first | (go_at_call 72; refine (hX2.out _).mono ?_; rintro e W2 ⟨rfl, hb2⟩; have hq2 := hid (And.intro (hq.out.1.below hb2 hq.out.1.lt) (new_trans hq.out.2 hb2)); have hown2 := hid (ownX_below hown.out hb2); have hzl2 := hq2.out.1.lt; clear hb2 hown hq y0 hX2) | (at_builtin; refine wpList_append_lies _ rfl _ _ 37 rfl (w.heap.size + 1) 9 i0 _ 1 16 Tryd.underlying37 hi0 hz0 hz1 hz2 rfl (by omega) _ m M rfl (hown2.out.alloc _) ⟨_, 0, none⟩ 1 1 [.string (RW ++ HX)] rfl rfl (World.news_of_block (cs := #[.string (RW ++ HX)]) (t := 9) (fr := (0, 0)) (heap_alloc_new _ _)) (by simp [Value.oneCell']) (by omega) (by unfold maxLen; omega) (by omega) (by rw [World.size_alloc]; omega) _ rfl ?_; intro g2 c2 w3 ho hg hat hlt2; have hB3 := hid (hB2.out _ _ _ hq2.out.1 hq2.out.2 hown2.out hg); have hO3 := hid (hN.out _ _ ho); clear ho hg hat hlt2 hown2 hB2 hN hq2))
        go_roundw
        case rel => exact ⟨2, by omega, by go_num, hO3.out, hB3.out.1, hB3.out.2⟩
        case measure => simp [intOf]
      · have hix : ∀ W : World, (Instr.index 113 (.agg rgwA.toList.toArray) (.int .i64 2)).run Tryd.prog W = .ok (.string (rgW 2)) W := fun W => by kernel_rfl
        have hN : Hid (∀ (W : World) v', W.ownsRow (w.heap.size + 1) 9 1 v' ((regP c 2).length + 1) ((regP c 2).map Value.string ++ [.string (rgW 2 ++ hxB c.r2)]) → W.ownsRow (w.heap.size + 1) 9 1 v' (regP c 3).length ((regP c 3).map Value.string)) := fun W v' h => by
          have e : regP c 3 = regP c 2 ++ [rgW 2 ++ hxB c.r2] := rfl
          rw [e, List.length_append, List.map_append]
          exact h
        have hX2 : Hid (∀ W, Calls Tryd.prog 72 #[.int .i64 c.r2] W fun e w' => e = .returned (.string (hxB c.r2)) ∧ Below W.heap.size W w') := hX
        have hs1 := rgW_size 2 (by omega)
        have hs2 := hxB_size c.r2
        have y0 := hq.out.1.cell
        have hzl := hq.out.1.lt
        clear hX
        generalize rgW 2 = RW at *
        generalize hxB c.r2 = HX at *
        generalize (regP c 2).length = m at *
        generalize (regP c 2).map Value.string = M at *
        have z1 : ¬ 9223372036854775807 < RW.size + HX.size := by omega
        have z2 : ¬ 9223372036854775807 < RW.size + 2 := by omega
        have hB2 : Hid (∀ W o w2, Blk W w.heap.size (cuA c) → Below w.heap.size w W → W.ownsRow (w.heap.size + 1) 9 1 u3 m M → (W.alloc o).grownBy w2 u3.ownBlock → Blk w2 w.heap.size (cuA c) ∧ Below w.heap.size w w2) := fun W o w2 h1 h2 h3 hg =>
          ⟨(h1.alloc o).grown hg (fun e => by have := (h3.lt _ e.symm).1; omega), (h2.alloc h2.size o).grown hg (by have := h2.size; simp; omega) (fun k hk => by have := (h3.lt k hk).1; omega)⟩
        replace hown := hid hown
        go_wp2_with (first | (go_at_call 72; refine (hX2.out _).mono ?_; rintro e W2 ⟨rfl, hb2⟩; have hq2 := hid (And.intro (hq.out.1.below hb2 hq.out.1.lt) (new_trans hq.out.2 hb2)); have hown2 := hid (ownX_below hown.out hb2); have hzl2 := hq2.out.1.lt; clear hb2 hown hq y0 hX2) | (at_builtin; refine wpList_append_lies _ rfl _ _ 37 rfl (w.heap.size + 1) 9 i0 _ 1 16 Tryd.underlying37 hi0 hz0 hz1 hz2 rfl (by omega) _ m M rfl (hown2.out.alloc _) ⟨_, 0, none⟩ 1 1 [.string (RW ++ HX)] rfl rfl (World.news_of_block (cs := #[.string (RW ++ HX)]) (t := 9) (fr := (0, 0)) (heap_alloc_new _ _)) (by simp [Value.oneCell']) (by omega) (by unfold maxLen; omega) (by omega) (by rw [World.size_alloc]; omega) _ rfl ?_; intro g2 c2 w3 ho hg hat hlt2; have hB3 := hid (hB2.out _ _ _ hq2.out.1 hq2.out.2 hown2.out hg); have hO3 := hid (hN.out _ _ ho); clear ho hg hat hlt2 hown2 hB2 hN hq2))
        go_roundw
        case rel => exact ⟨3, by omega, by go_num, hO3.out, hB3.out.1, hB3.out.2⟩
        case measure => simp [intOf]
      · have hix : ∀ W : World, (Instr.index 113 (.agg rgwA.toList.toArray) (.int .i64 3)).run Tryd.prog W = .ok (.string (rgW 3)) W := fun W => by kernel_rfl
        have hN : Hid (∀ (W : World) v', W.ownsRow (w.heap.size + 1) 9 1 v' ((regP c 3).length + 1) ((regP c 3).map Value.string ++ [.string (rgW 3 ++ hxB c.r3)]) → W.ownsRow (w.heap.size + 1) 9 1 v' (regP c 4).length ((regP c 4).map Value.string)) := fun W v' h => by
          have e : regP c 4 = regP c 3 ++ [rgW 3 ++ hxB c.r3] := rfl
          rw [e, List.length_append, List.map_append]
          exact h
        have hX2 : Hid (∀ W, Calls Tryd.prog 72 #[.int .i64 c.r3] W fun e w' => e = .returned (.string (hxB c.r3)) ∧ Below W.heap.size W w') := hX
        have hs1 := rgW_size 3 (by omega)
        have hs2 := hxB_size c.r3
        have y0 := hq.out.1.cell
        have hzl := hq.out.1.lt
        clear hX
        generalize rgW 3 = RW at *
        generalize hxB c.r3 = HX at *
        generalize (regP c 3).length = m at *
        generalize (regP c 3).map Value.string = M at *
        have z1 : ¬ 9223372036854775807 < RW.size + HX.size := by omega
        have z2 : ¬ 9223372036854775807 < RW.size + 2 := by omega
        have hB2 : Hid (∀ W o w2, Blk W w.heap.size (cuA c) → Below w.heap.size w W → W.ownsRow (w.heap.size + 1) 9 1 u3 m M → (W.alloc o).grownBy w2 u3.ownBlock → Blk w2 w.heap.size (cuA c) ∧ Below w.heap.size w w2) := fun W o w2 h1 h2 h3 hg =>
          ⟨(h1.alloc o).grown hg (fun e => by have := (h3.lt _ e.symm).1; omega), (h2.alloc h2.size o).grown hg (by have := h2.size; simp; omega) (fun k hk => by have := (h3.lt k hk).1; omega)⟩
        replace hown := hid hown
        go_wp2_with (first | (go_at_call 72; refine (hX2.out _).mono ?_; rintro e W2 ⟨rfl, hb2⟩; have hq2 := hid (And.intro (hq.out.1.below hb2 hq.out.1.lt) (new_trans hq.out.2 hb2)); have hown2 := hid (ownX_below hown.out hb2); have hzl2 := hq2.out.1.lt; clear hb2 hown hq y0 hX2) | (at_builtin; refine wpList_append_lies _ rfl _ _ 37 rfl (w.heap.size + 1) 9 i0 _ 1 16 Tryd.underlying37 hi0 hz0 hz1 hz2 rfl (by omega) _ m M rfl (hown2.out.alloc _) ⟨_, 0, none⟩ 1 1 [.string (RW ++ HX)] rfl rfl (World.news_of_block (cs := #[.string (RW ++ HX)]) (t := 9) (fr := (0, 0)) (heap_alloc_new _ _)) (by simp [Value.oneCell']) (by omega) (by unfold maxLen; omega) (by omega) (by rw [World.size_alloc]; omega) _ rfl ?_; intro g2 c2 w3 ho hg hat hlt2; have hB3 := hid (hB2.out _ _ _ hq2.out.1 hq2.out.2 hown2.out hg); have hO3 := hid (hN.out _ _ ho); clear ho hg hat hlt2 hown2 hB2 hN hq2))
        go_roundw
        case rel => exact ⟨4, by omega, by go_num, hO3.out, hB3.out.1, hB3.out.2⟩
        case measure => simp [intOf]
      · have hix : ∀ W : World, (Instr.index 113 (.agg rgwA.toList.toArray) (.int .i64 4)).run Tryd.prog W = .ok (.string (rgW 4)) W := fun W => by kernel_rfl
        have hN : Hid (∀ (W : World) v', W.ownsRow (w.heap.size + 1) 9 1 v' ((regP c 4).length + 1) ((regP c 4).map Value.string ++ [.string (rgW 4 ++ hxB c.r4)]) → W.ownsRow (w.heap.size + 1) 9 1 v' (regP c 5).length ((regP c 5).map Value.string)) := fun W v' h => by
          have e : regP c 5 = regP c 4 ++ [rgW 4 ++ hxB c.r4] := rfl
          rw [e, List.length_append, List.map_append]
          exact h
        have hX2 : Hid (∀ W, Calls Tryd.prog 72 #[.int .i64 c.r4] W fun e w' => e = .returned (.string (hxB c.r4)) ∧ Below W.heap.size W w') := hX
        have hs1 := rgW_size 4 (by omega)
        have hs2 := hxB_size c.r4
        have y0 := hq.out.1.cell
        have hzl := hq.out.1.lt
        clear hX
        generalize rgW 4 = RW at *
        generalize hxB c.r4 = HX at *
        generalize (regP c 4).length = m at *
        generalize (regP c 4).map Value.string = M at *
        have z1 : ¬ 9223372036854775807 < RW.size + HX.size := by omega
        have z2 : ¬ 9223372036854775807 < RW.size + 2 := by omega
        have hB2 : Hid (∀ W o w2, Blk W w.heap.size (cuA c) → Below w.heap.size w W → W.ownsRow (w.heap.size + 1) 9 1 u3 m M → (W.alloc o).grownBy w2 u3.ownBlock → Blk w2 w.heap.size (cuA c) ∧ Below w.heap.size w w2) := fun W o w2 h1 h2 h3 hg =>
          ⟨(h1.alloc o).grown hg (fun e => by have := (h3.lt _ e.symm).1; omega), (h2.alloc h2.size o).grown hg (by have := h2.size; simp; omega) (fun k hk => by have := (h3.lt k hk).1; omega)⟩
        replace hown := hid hown
        go_wp2_with (first | (go_at_call 72; refine (hX2.out _).mono ?_; rintro e W2 ⟨rfl, hb2⟩; have hq2 := hid (And.intro (hq.out.1.below hb2 hq.out.1.lt) (new_trans hq.out.2 hb2)); have hown2 := hid (ownX_below hown.out hb2); have hzl2 := hq2.out.1.lt; clear hb2 hown hq y0 hX2) | (at_builtin; refine wpList_append_lies _ rfl _ _ 37 rfl (w.heap.size + 1) 9 i0 _ 1 16 Tryd.underlying37 hi0 hz0 hz1 hz2 rfl (by omega) _ m M rfl (hown2.out.alloc _) ⟨_, 0, none⟩ 1 1 [.string (RW ++ HX)] rfl rfl (World.news_of_block (cs := #[.string (RW ++ HX)]) (t := 9) (fr := (0, 0)) (heap_alloc_new _ _)) (by simp [Value.oneCell']) (by omega) (by unfold maxLen; omega) (by omega) (by rw [World.size_alloc]; omega) _ rfl ?_; intro g2 c2 w3 ho hg hat hlt2; have hB3 := hid (hB2.out _ _ _ hq2.out.1 hq2.out.2 hown2.out hg); have hO3 := hid (hN.out _ _ ho); clear ho hg hat hlt2 hown2 hB2 hN hq2))
        go_roundw
        case rel => exact ⟨5, by omega, by go_num, hO3.out, hB3.out.1, hB3.out.2⟩
        case measure => simp [intOf]
      · have hix : ∀ W : World, (Instr.index 113 (.agg rgwA.toList.toArray) (.int .i64 5)).run Tryd.prog W = .ok (.string (rgW 5)) W := fun W => by kernel_rfl
        have hN : Hid (∀ (W : World) v', W.ownsRow (w.heap.size + 1) 9 1 v' ((regP c 5).length + 1) ((regP c 5).map Value.string ++ [.string (rgW 5 ++ hxB c.r5)]) → W.ownsRow (w.heap.size + 1) 9 1 v' (regP c 6).length ((regP c 6).map Value.string)) := fun W v' h => by
          have e : regP c 6 = regP c 5 ++ [rgW 5 ++ hxB c.r5] := rfl
          rw [e, List.length_append, List.map_append]
          exact h
        have hX2 : Hid (∀ W, Calls Tryd.prog 72 #[.int .i64 c.r5] W fun e w' => e = .returned (.string (hxB c.r5)) ∧ Below W.heap.size W w') := hX
        have hs1 := rgW_size 5 (by omega)
        have hs2 := hxB_size c.r5
        have y0 := hq.out.1.cell
        have hzl := hq.out.1.lt
        clear hX
        generalize rgW 5 = RW at *
        generalize hxB c.r5 = HX at *
        generalize (regP c 5).length = m at *
        generalize (regP c 5).map Value.string = M at *
        have z1 : ¬ 9223372036854775807 < RW.size + HX.size := by omega
        have z2 : ¬ 9223372036854775807 < RW.size + 2 := by omega
        have hB2 : Hid (∀ W o w2, Blk W w.heap.size (cuA c) → Below w.heap.size w W → W.ownsRow (w.heap.size + 1) 9 1 u3 m M → (W.alloc o).grownBy w2 u3.ownBlock → Blk w2 w.heap.size (cuA c) ∧ Below w.heap.size w w2) := fun W o w2 h1 h2 h3 hg =>
          ⟨(h1.alloc o).grown hg (fun e => by have := (h3.lt _ e.symm).1; omega), (h2.alloc h2.size o).grown hg (by have := h2.size; simp; omega) (fun k hk => by have := (h3.lt k hk).1; omega)⟩
        replace hown := hid hown
        go_wp2_with (first | (go_at_call 72; refine (hX2.out _).mono ?_; rintro e W2 ⟨rfl, hb2⟩; have hq2 := hid (And.intro (hq.out.1.below hb2 hq.out.1.lt) (new_trans hq.out.2 hb2)); have hown2 := hid (ownX_below hown.out hb2); have hzl2 := hq2.out.1.lt; clear hb2 hown hq y0 hX2) | (at_builtin; refine wpList_append_lies _ rfl _ _ 37 rfl (w.heap.size + 1) 9 i0 _ 1 16 Tryd.underlying37 hi0 hz0 hz1 hz2 rfl (by omega) _ m M rfl (hown2.out.alloc _) ⟨_, 0, none⟩ 1 1 [.string (RW ++ HX)] rfl rfl (World.news_of_block (cs := #[.string (RW ++ HX)]) (t := 9) (fr := (0, 0)) (heap_alloc_new _ _)) (by simp [Value.oneCell']) (by omega) (by unfold maxLen; omega) (by omega) (by rw [World.size_alloc]; omega) _ rfl ?_; intro g2 c2 w3 ho hg hat hlt2; have hB3 := hid (hB2.out _ _ _ hq2.out.1 hq2.out.2 hown2.out hg); have hO3 := hid (hN.out _ _ ho); clear ho hg hat hlt2 hown2 hB2 hN hq2))
        go_roundw
        case rel => exact ⟨6, by omega, by go_num, hO3.out, hB3.out.1, hB3.out.2⟩
        case measure => simp [intOf]
      · have hix : ∀ W : World, (Instr.index 113 (.agg rgwA.toList.toArray) (.int .i64 6)).run Tryd.prog W = .ok (.string (rgW 6)) W := fun W => by kernel_rfl
        have hN : Hid (wr.ownsRow (w.heap.size + 1) 9 1 u3 (regP c 7).length ((regP c 7).map Value.string)) := hown
        clear hown hX
        go_wp2
        go_roundw
        case rel => exact ⟨7, by omega, by go_num, hN.out, hq.out.1, hq.out.2⟩
        case measure => simp [intOf]
      · have hix : ∀ W : World, (Instr.index 113 (.agg rgwA.toList.toArray) (.int .i64 7)).run Tryd.prog W = .ok (.string (rgW 7)) W := fun W => by kernel_rfl
        have hN : Hid (∀ (W : World) v', W.ownsRow (w.heap.size + 1) 9 1 v' ((regP c 7).length + 1) ((regP c 7).map Value.string ++ [.string (rgW 7 ++ hxB c.r7)]) → W.ownsRow (w.heap.size + 1) 9 1 v' (regP c 8).length ((regP c 8).map Value.string)) := fun W v' h => by
          have e : regP c 8 = regP c 7 ++ [rgW 7 ++ hxB c.r7] := rfl
          rw [e, List.length_append, List.map_append]
          exact h
        have hX2 : Hid (∀ W, Calls Tryd.prog 72 #[.int .i64 c.r7] W fun e w' => e = .returned (.string (hxB c.r7)) ∧ Below W.heap.size W w') := hX
        have hs1 := rgW_size 7 (by omega)
        have hs2 := hxB_size c.r7
        have y0 := hq.out.1.cell
        have hzl := hq.out.1.lt
        clear hX
        generalize rgW 7 = RW at *
        generalize hxB c.r7 = HX at *
        generalize (regP c 7).length = m at *
        generalize (regP c 7).map Value.string = M at *
        have z1 : ¬ 9223372036854775807 < RW.size + HX.size := by omega
        have z2 : ¬ 9223372036854775807 < RW.size + 2 := by omega
        have hB2 : Hid (∀ W o w2, Blk W w.heap.size (cuA c) → Below w.heap.size w W → W.ownsRow (w.heap.size + 1) 9 1 u3 m M → (W.alloc o).grownBy w2 u3.ownBlock → Blk w2 w.heap.size (cuA c) ∧ Below w.heap.size w w2) := fun W o w2 h1 h2 h3 hg =>
          ⟨(h1.alloc o).grown hg (fun e => by have := (h3.lt _ e.symm).1; omega), (h2.alloc h2.size o).grown hg (by have := h2.size; simp; omega) (fun k hk => by have := (h3.lt k hk).1; omega)⟩
        replace hown := hid hown
        go_wp2_with (first | (go_at_call 72; refine (hX2.out _).mono ?_; rintro e W2 ⟨rfl, hb2⟩; have hq2 := hid (And.intro (hq.out.1.below hb2 hq.out.1.lt) (new_trans hq.out.2 hb2)); have hown2 := hid (ownX_below hown.out hb2); have hzl2 := hq2.out.1.lt; clear hb2 hown hq y0 hX2) | (at_builtin; refine wpList_append_lies _ rfl _ _ 37 rfl (w.heap.size + 1) 9 i0 _ 1 16 Tryd.underlying37 hi0 hz0 hz1 hz2 rfl (by omega) _ m M rfl (hown2.out.alloc _) ⟨_, 0, none⟩ 1 1 [.string (RW ++ HX)] rfl rfl (World.news_of_block (cs := #[.string (RW ++ HX)]) (t := 9) (fr := (0, 0)) (heap_alloc_new _ _)) (by simp [Value.oneCell']) (by omega) (by unfold maxLen; omega) (by omega) (by rw [World.size_alloc]; omega) _ rfl ?_; intro g2 c2 w3 ho hg hat hlt2; have hB3 := hid (hB2.out _ _ _ hq2.out.1 hq2.out.2 hown2.out hg); have hO3 := hid (hN.out _ _ ho); clear ho hg hat hlt2 hown2 hB2 hN hq2))
        go_roundw
        case rel => exact ⟨8, by omega, by go_num, hO3.out, hB3.out.1, hB3.out.2⟩
        case measure => simp [intOf]
    · obtain rfl : j = 8 := by omega
      have hml := hlP.out 8 (by omega)
      obtain ⟨g, cap, rfl, hlo, hglt⟩ := hown.form (show 0 < (regP c 8).length from Nat.succ_pos _)
      have hown0 := hid hown
      clear hown hR
      have hnb : some w.heap.size ≠ (Value.slice (some ⟨g, 0, none⟩) (regP c 8).length cap).ownBlock := fun e => by
        have : w.heap.size = g := by simpa [Value.ownBlock] using e
        omega
      have hgk : ∀ k, (Value.slice (some ⟨g, 0, none⟩) (regP c 8).length cap).ownBlock = some k → g = k := fun k hk => by simpa [Value.ownBlock] using hk
      go_upto_region 8 with fail
      refine e8_reg _ wr _ w.heap.size (regP c 8).length cap (w.heap.size + 1) (some ⟨g, 0, none⟩) ((regP c 8).map Value.string) c (hxB c.f) (hxB c.sp) (hxB c.pc) rfl rfl hq.out.1 hnb hown0.out hq.out.1.lt (by omega) (fun k hk => (hgk k hk) ▸ hglt) hF hS hP hsz.out (by simp) ?_
      rintro W ⟨e1, v1⟩ ⟨hg1, ho1⟩
      dsimp only at ho1
      have hB1 : Below w.heap.size w W := hq.out.2.grown hg1 hq.out.2.size (fun k hk => by rw [← hgk k hk]; omega)
      have hq1 : Blk W w.heap.size (cuA c) := hq.out.1.grown hg1 hnb
      obtain ⟨g1, cap1, rfl, hlo1, hglt1⟩ := ho1.form (by omega)
      have hnb1 : some w.heap.size ≠ (Value.slice (some ⟨g1, 0, none⟩) ((regP c 8).length + 3) cap1).ownBlock := fun e => by
        have : w.heap.size = g1 := by simpa [Value.ownBlock] using e
        omega
      have hgk1 : ∀ k, (Value.slice (some ⟨g1, 0, none⟩) ((regP c 8).length + 3) cap1).ownBlock = some k → g1 = k := fun k hk => by simpa [Value.ownBlock] using hk
      simp only [putsA, Act.put, List.setIfInBounds_toArray, List.set_cons_zero, List.set_cons_succ]
      go_upto_region 9 with fail
      refine e9_reg _ W _ w.heap.size ((regP c 8).length + 3) cap1 (w.heap.size + 1) (some ⟨g1, 0, none⟩) ((regP c 8).map Value.string ++ [.string (⟨#[102]⟩ ++ hxB c.f), .string (⟨#[115, 112]⟩ ++ hxB c.sp), .string (⟨#[112, 99]⟩ ++ hxB c.pc)]) c (onB c.iff ⟨#[101, 105]⟩) (onB c.halt ⟨#[104, 97, 108, 116]⟩) rfl rfl hq1 hnb1 ho1 hq1.lt (by omega) (fun k hk => (hgk1 k hk) ▸ hglt1) hI hH (by simp) ?_
      rintro W3 ⟨e3, v3⟩ ⟨hg3, ho3⟩
      dsimp only at ho3
      have hB3 : Below w.heap.size w W3 := hB1.grown hg3 hB1.size (fun k hk => by rw [← hgk1 k hk]; omega)
      have ho4 : W3.ownsRow (w.heap.size + 1) 9 1 v3 (cpuWs c).length ((cpuWs c).map Value.string) := by
        rw [← hWs.out]
        simpa using ho3
      have hpos : 0 < (cpuWs c).length := by rw [← hWs.out]; simp
      obtain ⟨g4, c4, hv4, hlo4, hglt4, hcap4, hcs4⟩ := own_cellsX ho4 hpos
      have hlen : (regP c 8).length + 3 + 2 = (cpuWs c).length := by rw [← hWs.out]; simp
      rw [hv4]
      have hL := hid (line_impl g4 c4 (cpuWs c) W3 hcs4 hWl.out.1 hWl.out.2)
      have hB4 := hid hB3
      clear hB3 ho4 ho3 ho1 hB1 hq1 hcs4 hI hH hF hS hP hWs hWl hown0 hq
      simp only [putsA, Act.put, List.setIfInBounds_toArray, List.set_cons_zero, List.set_cons_succ]
      generalize (cpuWs c).length = n at *
      go_wp2_with fail
      refine hL.out.mono ?_
      rintro e w5 ⟨rfl, hb5⟩
      have hB5 := hid (new_trans hB4.out hb5)
      clear hb5 hB4 hL
      go_wp2
      go_ret
      exact ⟨rfl, hB5.out⟩
set_option maxRecDepth 100000 in
theorem cput_impl (c : Cu) (w : World) (hRg : RgWs w) : Calls Tryd.prog 25 #[cuV c] w fun e w' => e = .returned (cpuT2 c) ∧ Below w.heap.size w w' := by
  have hb0 := hid ((Below.refl w.heap.size w).alloc (Nat.le_refl _) (.cells (cuA c) 52))
  have hq0 := hid (Blk.new w (cuA c) 52)
  have x0 := hq0.out.cell
  replace hRg := hid hRg
  cases hok : okC c
  · have e : cpuT2 c = .tuple #[.string ⟨#[]⟩, .int .i64 1] := by unfold cpuT2; rw [hok]; rfl
    rw [e]
    clear e
    go_enter Tryd.func25, Tryd.ntmps25
    go_wp2_with fail
    refine (cpuok_impl _ _).mono ?_
    rintro e w1 ⟨rfl, hb⟩
    rw [hok]
    have hb1 := hid (new_trans hb0.out hb)
    clear hb hb0 hq0 x0
    go_wp2
    go_ret2
    exact ⟨rfl, hb1.out⟩
  have e : cpuT2 c = .tuple #[.string (lineB (cpuWs c)), .int .i64 0] := by unfold cpuT2; rw [hok, cpu_line]; rfl
  rw [e]
  clear e
  go_enter Tryd.func25, Tryd.ntmps25
  go_wp2_with fail
  refine (cpuok_impl _ _).mono ?_
  rintro e w1 ⟨rfl, hb⟩
  rw [hok]
  have hb1 := hid (new_trans hb0.out hb)
  have hq1 := hid (hq0.out.below hb hq0.out.lt)
  clear hb hb0 hq0 x0
  have x1 := hq1.out.cell
  go_wp2_with fail
  refine (cline_impl c _ hok (hRg.out.up hb1.out)).mono ?_
  rintro e w2 ⟨rfl, hb⟩
  have hb2 := hid (new_trans hb1.out hb)
  clear hb hb1 hq1 x1
  go_wp2
  go_ret2
  exact ⟨rfl, hb2.out⟩
end Go.Proofs.YtneagomkohoceaaDoor
