/- The text of a snapshot: the specification. -/
import Derived.Test.YtifcdojaocndhaaDoorS27
import Derived.Test.YtifcdojaocndhaaDoorS17
import Derived.Test.YtifcdojaocndhaaDoorUbs
import Derived.Test.YtifcdojaocndhaaDoorS14
import Derived.Test.YtifcdojaocndhaaDoorS10
import Derived.Test.YtifcdojaocndhaaDoorS03
namespace Go.Proofs.YtifcdojaocndhaaDoor
open Go.ChangeShapes Go.WideShapes Go.ChangeAt Go.RowKit
set_option linter.unusedVariables false
set_option linter.unusedSimpArgs false

theorem cuA_at (c : Cu) (k : Nat) (hk : k < 8) : (cuA c)[k]? = some (.int .i64 (c.reg k)) := by
  rcases (by omega : k = 0 ∨ k = 1 ∨ k = 2 ∨ k = 3 ∨ k = 4 ∨ k = 5 ∨ k = 6 ∨ k = 7) with rfl | rfl | rfl | rfl | rfl | rfl | rfl | rfl
  all_goals rfl
abbrev cu0 : Cu := ⟨0, 0, 0, 0, 0, 0, 0, 0, 0, 0, 0, false, false, false⟩
theorem cu_there {W : World} {b : Nat} {z : Cu} (h : Blk W b (cuA z)) (c : Cu) : W.there b 0 (cuA c).size := fun j hj => by
  rw [Nat.zero_add]
  refine ⟨?_, h.frozen j⟩
  rw [h.cell j]
  have : j < (cuA z).size := hj
  rw [Array.getElem?_eq_getElem this]
  rfl
def layE : Nat → List Value → Array Value → Array Value
  | _, [], A => A
  | i, u :: t, A => layE (i + 1) t (A.setIfInBounds i u)
theorem layE_blk (b : Nat) (l : List Value) : ∀ (W : World) (i : Nat) (A : Array Value), Blk W b A → Blk (W.setCells b i l) b (layE i l A) := by
  induction l with
  | nil => exact fun _ _ _ h => h
  | cons u t ih => exact fun W i A h => ih _ _ _ (h.set i u)
theorem layE_below {lo b : Nat} {w : World} (vs : List Value) : ∀ (o : Nat) (W : World), lo ≤ b → Below lo w W → Below lo w (W.setCells b o vs) := by
  induction vs with
  | nil => exact fun o W _ h => h
  | cons u t ih => exact fun o W hb h => ih _ _ hb (h.setCell (p := ⟨b, o, none⟩) hb u)
theorem layE_other {b g : Nat} {A : Array Value} (hne : g ≠ b) (vs : List Value) : ∀ (o : Nat) (W : World), Blk W g A → Blk (W.setCells b o vs) g A := by
  induction vs with
  | nil => exact fun o W h => h
  | cons u t ih => exact fun o W h => ih _ _ (h.other (by simpa using hne) u)
theorem cu_laid {W : World} {b : Nat} {z : Cu} (h : Blk W b (cuA z)) (c : Cu) : Blk (W.setCells b 0 (cuA c).toList) b (cuA c) := by
  have q := layE_blk b (cuA c).toList W 0 (cuA z) h
  have e : layE 0 (cuA c).toList (cuA z) = cuA c := by
    simp only [layE, List.setIfInBounds_toArray, List.set_cons_zero, List.set_cons_succ, Nat.zero_add, Nat.reduceAdd]
  rw [e] at q
  exact q
theorem cu_one (c : Cu) : (cuA c).all (·.oneCell') = true := by simp [Value.oneCell']
abbrev fF (s : Sn) : Nat → Bool := fun i => [s.c.iff, s.c.ei, s.c.halt, s.m.locked, s.m.screen == 3].getD i false
abbrev fT (s : Sn) : Nat → Bool := fun i => [s.p.mic, s.p.beep].getD i false
theorem five_bits (s : Sn) : ((bitsN (fF s) 5 : Nat) : Int) = bitsS s.c s.m := by
  have e : (s.m.screen == 3) = decide (s.m.screen = 3) := rfl
  unfold bitsS fF
  rw [e]
  generalize decide (s.m.screen = 3) = x
  generalize s.c.iff = a, s.c.ei = b, s.c.halt = c, s.m.locked = d
  cases a <;> cases b <;> cases c <;> cases d <;> cases x <;> rfl
theorem two_bits (s : Sn) : ((bitsN (fT s) 2 : Nat) : Int) = b1 s.p.mic + 2 * b1 s.p.beep := by
  unfold fT
  generalize s.p.mic = a, s.p.beep = b
  cases a <;> cases b <;> rfl
theorem ula_or (p : Po) (h0 : 0 ≤ p.border) (h1 : p.border ≤ 7) : bits .or .i64 p.border ((b1 p.mic + 2 * b1 p.beep) * 8) = ulaS p := by
  unfold ulaS
  generalize p.border = n, p.mic = a, p.beep = b at *
  rcases (by omega : n = 0 ∨ n = 1 ∨ n = 2 ∨ n = 3 ∨ n = 4 ∨ n = 5 ∨ n = 6 ∨ n = 7) with rfl | rfl | rfl | rfl | rfl | rfl | rfl | rfl
  all_goals (cases a <;> cases b <;> decide)
theorem bitsS_bd (c : Cu) (M : Mem) : 0 ≤ bitsS c M ∧ bitsS c M ≤ 255 := by
  have h1 := b1_bd c.iff; have h2 := b1_bd c.ei; have h3 := b1_bd c.halt; have h4 := b1_bd M.locked; have h5 := b1_bd (decide (M.screen = 3))
  unfold bitsS
  omega
theorem ulaS_bd (p : Po) (h0 : 0 ≤ p.border) (h1 : p.border ≤ 7) : 0 ≤ ulaS p ∧ ulaS p ≤ 255 := by
  have h1 := b1_bd p.mic; have h2 := b1_bd p.beep
  unfold ulaS
  omega
theorem bytes13 {zs : List Int} (h : bytesB zs 64 = true) : zs.length = 64 ∧ ∀ k, k < 64 → 0 ≤ zs.getD k 0 ∧ zs.getD k 0 ≤ 255 := by
  unfold bytesB at h
  simp only [Bool.and_eq_true, decide_eq_true_eq, List.all_eq_true] at h
  obtain ⟨h1, h2⟩ := h
  refine ⟨h2, fun k hk => ?_⟩
  have hm : zs.getD k 0 ∈ zs := by
    rw [List.getD_eq_getElem?_getD, List.getElem?_eq_getElem (by omega)]
    exact List.getElem_mem _
  have := h1 _ hm
  unfold inB at this
  simp only [Bool.and_eq_true, decide_eq_true_eq] at this
  exact this
theorem sN_app (a b : List Int) : strOfNums (a ++ b) = strOfNums a ++ strOfNums b := by
  apply ByteArray.ext
  rw [ByteArray.data_append]
  unfold strOfNums
  simp
theorem take_getE {Z : List Int} {k : Nat} (h : k < Z.length) : Z.take k ++ [Z.getD k 0] = Z.take (k + 1) := by
  rw [List.take_succ_eq_append_getElem h, List.getD_eq_getElem?_getD, List.getElem?_eq_getElem h]
  rfl
theorem bnksL_app (A B : List (List Int)) : bnksL (A ++ B) = bnksL A ++ bnksL B := by
  induction A with
  | nil => rfl
  | cons a A ih =>
    show bnkL a ++ bnksL (A ++ B) = (bnkL a ++ bnksL A) ++ bnksL B
    rw [ih, List.append_assoc]
theorem bnks_take {R : List (List Int)} {i : Nat} (h : i < R.length) : bnksL (R.take (i + 1)) = bnksL (R.take i) ++ bnkL (R.getD i []) := by
  rw [List.take_succ_eq_append_getElem h, bnksL_app, List.getD_eq_getElem?_getD, List.getElem?_eq_getElem h]
  show _ ++ (bnkL _ ++ []) = _
  rw [List.append_nil]
  rfl
theorem bnks_len {R : List (List Int)} (h : ∀ b ∈ R, b.length = 64) : (bnksL R).length ≤ 130 * R.length := by
  induction R with
  | nil => exact Nat.le_refl _
  | cons b R ih =>
    have h1 := ih (fun x hx => h x (List.mem_cons_of_mem _ hx))
    have h2 := cmpE_len b
    rw [h b (List.mem_cons_self ..)] at h2
    show (bnkL b ++ bnksL R).length ≤ _
    unfold bnkL
    simp only [List.length_append, List.length_cons, List.length_nil]
    omega
theorem po_border {p : Po} (h : okPo p = true) : 0 ≤ p.border ∧ p.border ≤ 7 := by
  unfold okPo at h
  simp [inB] at h
  omega
end Go.Proofs.YtifcdojaocndhaaDoor

/- SnapText: the specification. -/
namespace Go.Proofs.YtifcdojaocndhaaDoor
open Go.ChangeShapes Go.WideShapes Go.ChangeAt Go.RowKit
set_option linter.unusedVariables false
set_option linter.unusedSimpArgs false

def sntext2 (s : Sn) : ByteArray × Int := if okSn s = true then (strOfNums (snapL s.c s.m s.p), 0) else (⟨#[]⟩, 1)
theorem sn_all {W : World} {b : Nat} {s : Sn} {vr vm : Value} (h : Blk W b (snA s vr vm)) : W.rangeAt b 0 (snA s vr vm).toList := blk_range h [] _ [] (by simp)
theorem szS (s : Sn) (vr vm : Value) : (Tryd.prog.info? 153).map (·.size) = some (snA s vr vm).toList.length := by
  show _ = some 31
  kernel_rfl
end Go.Proofs.YtifcdojaocndhaaDoor

/- SameSnap: the specification. -/
namespace Go.Proofs.YtifcdojaocndhaaDoor
open Go.ChangeShapes Go.WideShapes Go.ChangeAt Go.RowKit
set_option linter.unusedVariables false
set_option linter.unusedSimpArgs false

/-- a guarded operation is wanted where the slot of its guard says so -/
theorem want_of {ops : Array Oper} {o : Oper} {a : Act} {j s : Nat} {want b : Bool} (hg : o.guard = some (j, want)) (hd : (ops[j]?).bind (·.dst) = some s) (hv : a.tmps.getD s undef = .bool b) : Region.wanted o (yielded ops a.tmps) = (b == want) := by
  unfold Region.wanted
  rw [hg]
  dsimp only
  unfold yielded
  rw [hd, Option.bind_some]
  cases ht : a.tmps[s]? with
  | none =>
    rw [Array.getD_eq_getD_getElem?, ht] at hv
    cases hv
  | some v =>
    rw [Array.getD_eq_getD_getElem?, ht] at hv
    have hv : v = .bool b := hv
    subst hv
    cases b <;> cases want <;> rfl
def SmallS (s : Sn) : Prop := s.m.rom.length ≤ 1000000000 ∧ s.m.ram.length ≤ 1000000000 ∧ ∀ i, i < s.m.ram.length → (s.m.ram.getD i []).length ≤ 1000000000
def sameSn (s s2 : Sn) : Bool := okSn s && okSn s2 && (strOfNums (snapL s.c s.m s.p)).toList == (strOfNums (snapL s2.c s2.m s2.p)).toList
end Go.Proofs.YtifcdojaocndhaaDoor

/- What the program says of a processor that is right. -/
namespace Go.Proofs.YtifcdojaocndhaaDoor
open Go.ChangeShapes Go.WideShapes Go.ChangeAt Go.RowKit
set_option linter.unusedVariables false
set_option linter.unusedSimpArgs false

theorem isbC_impl (n : Int) (w : World) : Calls Tryd.prog 68 #[.int .i64 n] w fun e w' => e = .returned (.bool (inB n 0 255)) ∧ w' = w := by
  go_enter Tryd.func68, Tryd.ntmps68
  go_wp2
  all_goals go_ret
  all_goals exact ⟨ret_bool (by rw [Bool.eq_iff_iff]; simp [inB]; try omega), rfl⟩
theorem aresC_impl (a b : Int) (w : World) : Calls Tryd.prog 116 #[.int .i64 a, .int .i64 b] w fun e w' => e = .returned (.bool (inB a 0 255 && inB b 0 255)) ∧ w' = w := by
  cases h1 : inB a 0 255
  all_goals
    go_enter Tryd.func116, Tryd.ntmps116
    go_wp2_with (go_at_call 68; refine (isbC_impl _ _).mono ?_; rintro e w' ⟨rfl, rfl⟩)
    go_ret
    exact ⟨ret_bool (by simp), rfl⟩
theorem rgC_at (c : Cu) (k : Nat) (hk : k < 8) (w : World) : (Instr.index 24 (.agg #[.int .i64 c.r0, .int .i64 c.r1, .int .i64 c.r2, .int .i64 c.r3, .int .i64 c.r4, .int .i64 c.r5, .int .i64 c.r6, .int .i64 c.r7]) (.int .i64 (k : Int))).run Tryd.prog w = .ok (.int .i64 (c.reg k)) w := by
  rcases (by omega : k = 0 ∨ k = 1 ∨ k = 2 ∨ k = 3 ∨ k = 4 ∨ k = 5 ∨ k = 6 ∨ k = 7) with rfl | rfl | rfl | rfl | rfl | rfl | rfl | rfl <;> kernel_rfl
set_option maxRecDepth 100000 in
set_option maxHeartbeats 1000000 in
theorem cpuok_impl (c : Cu) (w : World) : Calls Tryd.prog 140 #[cuV c] w fun e w' => e = .returned (.bool (okC c)) ∧ Below w.heap.size w w' := by
  have hno : Hid (∀ k, k < 8 → inB (c.reg k) 0 255 = false → okC c = false) := fun k hk => regs_no hk
  have hall : Hid ((∀ i, i < 8 → inB (c.reg i) 0 255 = true) → okC c = (decide (c.r6 = 0) && inB c.f 0 255 && inB c.sp 0 255 && inB c.pc 0 255 && (!c.ei || c.iff))) := fun h => by unfold okC; rw [regs_all h, Bool.true_and]
  have hB := hid ((Below.refl w.heap.size w).alloc (Nat.le_refl _) (.cells (cuA c) 26))
  have q1 := (Blk.new w (cuA c) 26).cell
  have hix := hid (rgC_at c)
  obtain ⟨Q, hQ⟩ : ∃ Q, okC c = Q := ⟨_, rfl⟩
  rw [hQ] at hno hall ⊢
  clear hQ
  go_enter Tryd.func140, Tryd.ntmps140
  go_upto_region 1 with fail
  obtain ⟨V, hV⟩ : ∃ V, w.alloc (Obj.cells (cuA c) 26) = V := ⟨_, rfl⟩
  rw [hV] at hB q1 ⊢
  clear hV
  go_wp2
  go_loop [7] (fun i => ∃ k : Nat, k ≤ 8 ∧ i = .int .i64 k ∧ ∀ j, j < k → inB (c.reg j) 0 255 = true) (fun i => 8 - (intOf i).toNat)
  case atStart => exact ⟨0, by omega, rfl, fun j hj => by omega⟩
  case round =>
    obtain ⟨k, hk, rfl, hj⟩ := hrel
    by_cases hlt : k < 8
    · have i1 := hix.out k hlt
      cases hb : inB (c.reg k) 0 255
      · have hE := hid (hno.out k hlt hb)
        clear hj hno hall hk
        generalize c.reg k = y at *
        go_wp2_with (go_at_call 68; refine (isbC_impl _ _).mono ?_; rintro e w' ⟨rfl, rfl⟩; rw [hb])
        go_ret
        exact ⟨ret_bool hE.out.symm, hB.out⟩
      · have hj2 : Hid (∀ j, j < k + 1 → inB (c.reg j) 0 255 = true) := fun j hj1 => by
          by_cases e : j = k
          · rw [e]; exact hb
          · exact hj j (by omega)
        clear hj hno hall hk
        generalize c.reg k = y at *
        go_wp2_with (go_at_call 68; refine (isbC_impl _ _).mono ?_; rintro e w' ⟨rfl, rfl⟩; rw [hb])
        go_round
        case rel => exact ⟨k + 1, by omega, by go_num, hj2.out⟩
        case measure => simp [intOf]; omega
    · obtain rfl : k = 8 := by omega
      have hE := hall.out hj
      clear hj hno hall hk hlt hix
      by_cases h6 : c.r6 = 0
      · have h62 : (c.r6 == 0) = true := by simp [h6]
        rw [decide_eq_true h6, Bool.true_and] at hE
        clear h6
        cases h1 : inB c.f 0 255 && inB c.sp 0 255
        · rw [h1] at hE
          replace hE := hid hE
          go_wp2_with (first | (go_at_call 116; refine (aresC_impl _ _ _).mono ?_; rintro e w' ⟨rfl, rfl⟩; rw [h1]) | (go_at_call 68; refine (isbC_impl _ _).mono ?_; rintro e w' ⟨rfl, rfl⟩))
          go_ret
          exact ⟨ret_bool (by rw [hE.out]; rfl), hB.out⟩
        · rw [h1] at hE
          cases h3 : inB c.pc 0 255
          · rw [h3] at hE
            replace hE := hid hE
            go_wp2_with (first | (go_at_call 116; refine (aresC_impl _ _ _).mono ?_; rintro e w' ⟨rfl, rfl⟩; rw [h1]) | (go_at_call 68; refine (isbC_impl _ _).mono ?_; rintro e w' ⟨rfl, rfl⟩; rw [h3]))
            go_ret
            exact ⟨ret_bool (by rw [hE.out]; rfl), hB.out⟩
          · rw [h3] at hE
            cases h4 : c.iff
            · rw [h4] at hE
              replace hE := hid hE
              go_wp2_with (first | (go_at_call 116; refine (aresC_impl _ _ _).mono ?_; rintro e w' ⟨rfl, rfl⟩; rw [h1]) | (go_at_call 68; refine (isbC_impl _ _).mono ?_; rintro e w' ⟨rfl, rfl⟩; rw [h3]))
              go_ret
              exact ⟨ret_bool (by rw [hE.out]; simp), hB.out⟩
            · rw [h4] at hE
              replace hE := hid hE
              go_wp2_with (first | (go_at_call 116; refine (aresC_impl _ _ _).mono ?_; rintro e w' ⟨rfl, rfl⟩; rw [h1]) | (go_at_call 68; refine (isbC_impl _ _).mono ?_; rintro e w' ⟨rfl, rfl⟩; rw [h3]))
              go_ret
              exact ⟨ret_bool (by rw [hE.out]; simp), hB.out⟩
      · have h62 : (c.r6 == 0) = false := by simp [h6]
        rw [decide_eq_false h6, Bool.false_and, Bool.false_and, Bool.false_and, Bool.false_and] at hE
        replace hE := hid hE
        clear h6
        go_wp2
        go_ret
        exact ⟨ret_bool (by rw [hE.out]), hB.out⟩
end Go.Proofs.YtifcdojaocndhaaDoor
