/- A list of code: the program. -/
import Derived.Test.YtneagomkohoceaaDoorTyac
import Derived.Test.YtneagomkohoceaaDoorTxec
import Derived.Test.YtneagomkohoceaaDoorWawc
import Derived.Test.YtneagomkohoceaaDoorKec
import Derived.Test.YtneagomkohoceaaDoorC16
namespace Go.Proofs.YtneagomkohoceaaDoor
open Go.ChangeShapes Go.WideShapes Go.ChangeAt Go.RowKit
set_option linter.unusedVariables false
set_option linter.unusedSimpArgs false

theorem mc_there5Y {W : World} {b : Nat} {A : Array Value} (h : Blk W b A) (hn : A.size = 5) : W.there b 0 5 := fun j hj => by
  refine ⟨?_, h.frozen _⟩
  rw [h.cell, Array.getElem?_eq_getElem (by omega)]
  rfl
theorem lay5_atY {W : World} {b : Nat} {z0 z1 z2 z3 z4 : Value} (h : Blk W b #[z0, z1, z2, z3, z4]) (a0 a1 a2 a3 a4 : Value) : Blk (W.setCells b 0 [a0, a1, a2, a3, a4]) b #[a0, a1, a2, a3, a4] := ((((h.set 0 a0).set 1 a1).set 2 a2).set 3 a3).set 4 a4
theorem lay_belowY {lo b : Nat} {w : World} (vs : List Value) : ∀ (o : Nat) (W : World), lo ≤ b → Below lo w W → Below lo w (W.setCells b o vs) := by
  induction vs with
  | nil => exact fun o W _ h => h
  | cons u t ih => exact fun o W hb h => ih _ _ hb (h.setCell (p := ⟨b, o, none⟩) hb u)
theorem kdW_pos : ∀ k, k < 24 → 0 < (kdW k).size := by decide +kernel
theorem textB_pos (k A B N : Nat) (hk : k < 24) : textB k A B N ≠ ⟨#[]⟩ := by
  intro h
  have h1 := kdW_pos k hk
  have h2 : (textB k A B N).size = 0 := by rw [h]; rfl
  unfold textB at h2
  simp only [ByteArray.size_append] at h2
  omega
theorem line_two {x y : ByteArray} (hx : x ≠ ⟨#[]⟩) (hy : y ≠ ⟨#[]⟩) : lineB [x, y] = x ++ ⟨#[32]⟩ ++ y := by
  unfold lineB
  rw [said_all _ (by simp only [List.mem_cons, List.not_mem_nil, or_false]; rintro z (rfl | rfl); exact hx; exact hy)]
  unfold joinB
  apply ByteArray.ext
  simp [Lib.join_cons, Lib.joinTail, ByteArray.data_append]
theorem second_impl (a : Option Addr) (cap I : Nat) (zs : List Int) (w : World) (hd : zs = [] ∨ ∃ b off, a = some ⟨b, off, none⟩ ∧ ∀ i, i < zs.length → w.cell? ⟨b, off + i, none⟩ = some (.int .i64 (zs.getD i 0))) (hI : I < zs.length) (hl : zs.length ≤ 1000) :
    Calls Tryd.prog 70 #[.slice a zs.length cap, .int .i64 (I : Nat)] w fun e w' => e = .returned (.int .i64 (zs.getD (I + 1) 0)) ∧ w' = w := by
  by_cases h2 : I + 1 < zs.length
  · obtain ⟨b, off, rfl, c1⟩ := row_some hd h2
    have j1 : ((I : Int) + 1 == (zs.length : Int)) = false := by rw [beq_eq_false_iff_ne]; omega
    have j2 : (I : Int) + 1 < (zs.length : Int) := by omega
    have j0 : (0 : Int) ≤ (I : Int) + 1 := by omega
    have e1 : ((I : Int) + 1).toNat = I + 1 := by omega
    clear hd
    generalize zs.getD (I + 1) 0 = y at *
    go_enter Tryd.func70, Tryd.ntmps70
    go_wp2
    go_ret
    exact ⟨rfl, rfl⟩
  · have e0 : zs.getD (I + 1) 0 = 0 := by rw [List.getD_eq_getElem?_getD, List.getElem?_eq_none (by omega)]; rfl
    have e1 : zs.length = I + 1 := by omega
    rw [e0, e1]
    clear hd e0
    go_enter Tryd.func70, Tryd.ntmps70
    go_wp2
    go_ret
    exact ⟨rfl, rfl⟩
theorem own_shapeY {W : World} {lo n : Nat} {v : Value} {xs : List Value} (h : W.ownsRow lo 9 1 v n xs) : ∃ oa cap, v = .slice oa n cap ∧ ∀ k, v.ownBlock = some k → lo ≤ k ∧ k < W.heap.size := by
  have h2 := fun k hk => h.lt k hk
  rcases h.2 with ⟨rfl, rfl⟩ | ⟨g, cap, cur, rfl, _⟩
  · exact ⟨none, 0, rfl, h2⟩
  · exact ⟨_, cap, rfl, h2⟩
set_option maxRecDepth 100000 in
set_option maxHeartbeats 4000000 in
theorem listed_impl (a : Option Addr) (cap : Nat) (zs : List Int) (w : World) (h : RowR w (.slice a zs.length cap) zs) (hl : zs.length ≤ 256) (hal : zs.all (fun z => inB z 0 255) = true) (hKd : Kinds w) (hT : PowT w) :
    Calls Tryd.prog 47 #[.slice a zs.length cap] w fun e w' => ∃ v, e = .returned v ∧ w'.ownsRow w.heap.size 9 1 v (lcS zs zs.length).2.length ((lcS zs zs.length).2.map Value.string) ∧ Below w.heap.size w w' := by
  obtain ⟨i0, hi0, hz0, hz1, hz2⟩ := info_parts infoStr
  have hbd := hid (all_getD hal)
  have hd := hid h.disj
  replace hKd := hid hKd
  replace hT := hid hT
  clear hal h
  go_enter Tryd.func47, Tryd.ntmps47
  go_wp2
  go_loopw [3, 4] (fun v i wr => ∃ k : Nat, i = .int .i64 (lcS zs k).1 ∧ wr.ownsRow w.heap.size 9 1 v (lcS zs k).2.length ((lcS zs k).2.map Value.string) ∧ Below w.heap.size w wr) (fun _ i _ => zs.length + 2 - (intOf i).toNat)
  case atStart => exact ⟨0, rfl, World.ownsRow_nil _ _ _ _, Below.refl _ _⟩
  case round =>
    obtain ⟨k, rfl, hown, hb⟩ := hrel
    obtain ⟨hI1, hI2⟩ := lcS_bd zs k
    by_cases hlt : (lcS zs k).1 < zs.length
    · have hsu := lcS_succ hlt
      obtain ⟨I, hI⟩ : ∃ I, (lcS zs k).1 = I := ⟨_, rfl⟩
      rw [hI] at hlt hsu hI1 hI2
      have hxb := hbd.out I
      have hyb := hbd.out (I + 1)
      obtain ⟨hok, kk, A, B, N, kK, kA, kB, kN, eO, eA, eB, eN, eT⟩ := dec_facts hxb.1 hxb.2 hyb.1 hyb.2
      have hLp := decL_pos (zs.getD I 0)
      obtain ⟨X, hX⟩ : ∃ X : Nat, zs.getD I 0 = (X : Int) := ⟨(zs.getD I 0).toNat, by omega⟩
      obtain ⟨Y, hY⟩ : ∃ X : Nat, zs.getD (I + 1) 0 = (X : Int) := ⟨(zs.getD (I + 1) 0).toNat, by omega⟩
      have hDec : Hid (∀ W, Below wr.heap.size wr W → Calls Tryd.prog 36 #[.int .i64 (zs.getD I 0), .int .i64 (zs.getD (I + 1) 0)] W fun e w' => e = .returned (dcdV (zs.getD I 0) (zs.getD (I + 1) 0)) ∧ Below W.heap.size W w') := fun W hW => by
        rw [hX, hY]
        exact dec0_impl X Y W (hKd.out.below (new_trans hb hW)) (by omega) (by omega)
      have hSec : Hid (∀ W, Below wr.heap.size wr W → Calls Tryd.prog 70 #[.slice a zs.length cap, .int .i64 (I : Nat)] W fun e w' => e = .returned (.int .i64 (zs.getD (I + 1) 0)) ∧ w' = W) := fun W hW => second_impl a cap I zs W (by
        rcases hd.out with hn | ⟨b, off, rfl, hc⟩
        · exact .inl hn
        · exact .inr ⟨b, off, rfl, fun i hi => cellX_kept (new_trans hb hW) (hc i hi)⟩) hlt (by omega)
      have hHx := hid (fun W => hexb_impl (I : Int) W (by omega) (by omega))
      have hTx : Hid (∀ W, Below w.heap.size w W → Calls Tryd.prog 14 #[insV kk A B N (decL (zs.getD I 0))] W fun e w' => e = .returned (.tuple #[.string (insB (zs.getD I 0) (zs.getD (I + 1) 0)), .int .i64 0]) ∧ Below W.heap.size W w') := fun W hW => by
        have h9 := text_impl (kk : Int) (A : Int) (B : Int) (N : Int) (decL (zs.getD I 0)) W (hKd.out.below hW) (hT.out.up hW)
        rw [← eO, ← eA, ← eB, ← eN] at h9 ⊢
        have e9 : text2 (decO (zs.getD I 0)) (decA (zs.getD I 0)) (decB (zs.getD I 0) (zs.getD (I + 1) 0)) (decN (zs.getD I 0) (zs.getD (I + 1) 0)) (decL (zs.getD I 0)) = .tuple #[.string (insB (zs.getD I 0) (zs.getD (I + 1) 0)), .int .i64 0] := by unfold text2; rw [if_pos hok]; rfl
        rw [e9] at h9
        exact h9
      have hTs := insB_size hxb.1 hxb.2 hyb.1 hyb.2
      have hHs := hxB_size (I : Int)
      have hLn : Hid (lineB [hxB (I : Int), insB (zs.getD I 0) (zs.getD (I + 1) 0)] = lcW zs I) := by
        show _ = _
        rw [line_two (fun e => by have := hxB_size (I : Int); rw [e] at this; exact absurd this (by decide)) (by rw [eT]; exact textB_pos kk A B N kK)]
        rfl
      have hdv : dcdV (zs.getD I 0) (zs.getD (I + 1) 0) = insV kk A B N (decL (zs.getD I 0)) := by unfold dcdV; rw [eO, eA, eB, eN]
      rw [hdv] at hDec
      clear hdv eO eA eB eN eT hX hY hok
      obtain ⟨b, off, rfl, c1⟩ := row_some hd.out hlt
      have c1' := cellX_kept hb c1
      have hnx : Hid (∀ (W : World) v, W.ownsRow w.heap.size 9 1 v ((lcS zs k).2.length + 1) ((lcS zs k).2.map Value.string ++ [.string (lcW zs I)]) → W.ownsRow w.heap.size 9 1 v (lcS zs (k + 1)).2.length ((lcS zs (k + 1)).2.map Value.string)) := fun W v hh => by
        rw [hsu]
        dsimp only
        rw [List.length_append, List.map_append]
        exact hh
      have hi' : Hid ((lcS zs (k + 1)).1 = I + (decL (zs.getD I 0)).toNat) := by rw [hsu]; exact rfl
      have hown' := hid hown
      have hb' := hid hb
      have hm1000 : (lcS zs k).2.length ≤ 1000 := by omega
      have hLz : Hid (0 ≤ decL (zs.getD I 0) ∧ decL (zs.getD I 0) ≤ 2) := by show _ ∧ _; omega
      have k0 : (0 : Int) ≤ (I : Int) := by omega
      have k1 : (I : Int) < (zs.length : Int) := by omega
      clear hown hb c1 hsu hd hbd
      rw [hI]
      generalize hxy : insB (zs.getD I 0) (zs.getD (I + 1) 0) = TX at *
      generalize hxB (I : Int) = HI at *
      generalize lcW zs I = LW at *
      generalize zs.getD I 0 = x at *
      generalize zs.getD (I + 1) 0 = y at *
      generalize decL x = L at *
      generalize (lcS zs k).2.length = m at *
      generalize (lcS zs k).2.map Value.string = M at *
      replace hxy := hid hxy
      go_upto_region 4 with fail
      refine new_region 8 9 5 #[.int .i64 0, .int .i64 0, .int .i64 0, .int .i64 0, .int .i64 0] (fun W => Hid (Below wr.heap.size wr W ∧ True)) (fun e W => Blk W e #[.int .i64 kk, .int .i64 A, .int .i64 B, .int .i64 N, .int .i64 L] ∧ Below wr.heap.size wr W) (by kernel_rfl) (by kernel_rfl) (by kernel_rfl) (by kernel_rfl) (by kernel_rfl) (by kernel_rfl) (by kernel_rfl) (by kernel_rfl) (by decide) (by kernel_rfl) (by kernel_rfl) (hid ⟨(Below.refl _ _).drew, trivial⟩) (fun W hW => hW.out.1.size) ?_
      iterate 6 (refine new_take (v := ?_) (by decide) (by decide) (by kernel_rfl) (by kernel_rfl) ?_ ?_; rotate_left; (focus (intro W hW; have y0 := cellX_kept hW.out.1 c1'; go_simp; first | done | with_reducible rfl)); (try simp only [Act.put, List.setIfInBounds_toArray, List.set_cons_zero, List.set_cons_succ]))
      refine new_call (f := 70) (args := #[.slice (some ⟨b, off, none⟩) zs.length cap, .int .i64 (I : Nat)]) (.int .i64 y) (by decide) (by decide) (by kernel_rfl) (by kernel_rfl) ?_ ?_ ?_; (focus (intro W; go_simp; first | done | with_reducible rfl)); (focus (intro W hW; exact (hSec.out W hW.out.1).mono (fun r W' hr => ⟨hr.1, by rw [hr.2]; exact hW, by rw [hr.2]; exact Below.refl _ _⟩))); (try simp only [Act.put, List.setIfInBounds_toArray, List.set_cons_zero, List.set_cons_succ])
      refine new_call (f := 36) (args := #[.int .i64 x, .int .i64 y]) (insV kk A B N L) (by decide) (by decide) (by kernel_rfl) (by kernel_rfl) ?_ ?_ ?_; (focus (intro W; go_simp; first | done | with_reducible rfl)); (focus (intro W hW; exact (hDec.out W hW.out.1).mono (fun r W' hr => ⟨hr.1, hid ⟨new_trans hW.out.1 hr.2, trivial⟩, hr.2⟩))); (try simp only [Act.put, List.setIfInBounds_toArray, List.set_cons_zero, List.set_cons_succ])
      refine new_make (by decide) (by kernel_rfl) ?_ ?_; (focus (intro W hW; refine ⟨24, ?_, hid ⟨hW.out.1.alloc hW.out.1.size _, trivial⟩⟩; go_simp; first | done | with_reducible rfl)); (try simp only [Act.put, List.setIfInBounds_toArray, List.set_cons_zero, List.set_cons_succ])
      refine new_store (by decide) (by decide) (by kernel_rfl) ?_ ?_; (focus (intro e he W hW K hK; refine wp_store_mid 24 _ _ rfl e 0 #[.int .i64 kk, .int .i64 A, .int .i64 B, .int .i64 N, .int .i64 L] rfl rfl (mc_there5Y hW.2 rfl) (by show _ = some 5; kernel_rfl) (by simp [Value.oneCell']) ?_; exact hK _ ⟨lay5_atY hW.2 _ _ _ _ _, lay_belowY _ _ _ he hW.1.out.1⟩)); (try simp only [Act.put, List.setIfInBounds_toArray, List.set_cons_zero, List.set_cons_succ])
      refine new_end (fun e W he hW => ?_)
      have hq5 := hid hW.1
      have hB5 := hid hW.2
      clear hW hDec hSec c1'
      have x5 := hq5.out.cell
      go_wp2_with fail
      refine (hTx.out _ (new_trans hb'.out hB5.out)).mono ?_
      rintro e2 W2 ⟨rfl, hb2⟩
      have hB6 := hid (new_trans hB5.out hb2)
      have hq6 := hid (hq5.out.below hb2 hq5.out.lt)
      clear hb2 hB5 hq5 x5 hTx
      have x6 := hq6.out.cell
      have hO6 := hid (ownX_below hown'.out hB6.out)
      have hB7 := hid (new_trans hb'.out hB6.out)
      obtain ⟨oa, oc, rfl, hob⟩ := own_shapeY hown'.out
      clear hown' hb'
      go_wp2_with (first
        | (go_at_call 72; refine (hHx.out _).mono ?_; rintro e3 W3 ⟨rfl, hb3⟩; have hB8 := hid (new_trans hB7.out hb3); have hO8 := hid (ownX_below hO6.out hb3); have hq8 := hid (hq6.out.below hb3 hq6.out.lt); have hB8r := hid (new_trans hB6.out hb3); clear hb3 hB7 hO6 hq6 x6 hB6)
        | (go_at_call 71; have hl2 := line_impl W3.heap.size 2 [HI, TX] (W3.alloc (.cells #[.string HI, .string TX] 9)) (fun j z hz => by rw [World.cell?_alloc_at _ _ _ _ rfl]; match j, hz with | 0, hz => exact congrArg (Option.map Value.string) hz | 1, hz => exact congrArg (Option.map Value.string) hz) (by simp) (by intro z hz; simp only [List.mem_cons, List.not_mem_nil, or_false] at hz; rcases hz with rfl | rfl <;> omega); refine hl2.mono ?_; clear hl2; rintro e4 W4 ⟨rfl, hb4⟩; rw [hLn.out]; have hB9 := hid (new_trans (hB8.out.alloc hB8.out.size (.cells #[.string HI, .string TX] 9)) hb4); have hO9 := hid (ownX_below (hO8.out.alloc (.cells #[.string HI, .string TX] 9)) hb4); have hq9 := hid ((hq8.out.alloc (.cells #[.string HI, .string TX] 9)).below hb4 (by have := hq8.out.lt; simp; omega)); have hB9r := hid (new_trans (hB8r.out.alloc hB8r.out.size (.cells #[.string HI, .string TX] 9)) hb4); clear hb4 hB8 hO8 hq8 hB8r)
        | (at_builtin; refine wpList_append_lies _ rfl _ _ 37 rfl w.heap.size 9 i0 _ 1 16 Tryd.underlying37 hi0 hz0 hz1 hz2 rfl (by omega) _ m M rfl (hO9.out.alloc _) ⟨_, 0, none⟩ 1 1 [.string LW] rfl rfl (World.news_of_block (cs := #[.string LW]) (t := 9) (fr := (0, 0)) (heap_alloc_new _ _)) (by simp [Value.oneCell']) (by omega) (by unfold maxLen; omega) (by omega) (by rw [World.size_alloc]; exact Nat.le_succ_of_le hB9.out.size) _ rfl ?_; intro g2 c2 w5 ho hg hat hlt5; have hO10 := hid (hnx.out _ _ ho); have hB10 := hid ((hB9.out.alloc hB9.out.size _).grown hg (by have := hB9.out.size; simp; omega) (fun k hk => (hob k hk).1)); have hq10 := (hq9.out.alloc (.cells #[.string LW] 9)).grown hg (fun e9 => by have h1 := (hob e e9.symm).2; omega); have x10 := hq10.cell 4; have hLz' := hLz.out; clear ho hg hat hlt5 hO9 hB9 hq9 hq10 hnx hB9r))
      go_roundw
      case rel => exact ⟨k + 1, by rw [hi'.out, Int.natCast_add, Int.toNat_of_nonneg hLz'.1], hO10.out, hB10.out⟩
      case measure => simp [intOf]; omega
    · have hfin := lcS_fin (zs := zs) (k := k) (by omega)
      have hown' := hid hown
      rw [hfin] at hown'
      have hb' := hid hb
      have hE : decide (((lcS zs k).1 : Int) < (zs.length : Int)) = false := by simp; omega
      clear hown hb hfin
      generalize (lcS zs k).1 = I at *
      go_wp2
      go_ret
      exact ⟨_, rfl, hown'.out, hb'.out⟩
theorem isbC_impl (a : Int) (w : World) : Calls Tryd.prog 46 #[.int .i64 a] w fun e w' => e = .returned (.bool (inB a 0 255)) ∧ w' = w := by
  go_enter Tryd.func46, Tryd.ntmps46
  go_wp2
  all_goals go_ret
  all_goals exact ⟨ret_bool (by rw [Bool.eq_iff_iff]; simp [inB]; try omega), rfl⟩
theorem notbyte_impl (z : Int) (w : World) : Calls Tryd.prog 45 #[.int .i64 z] w fun e w' => e = .returned (.bool (!inB z 0 255)) ∧ w' = w := by
  go_enter Tryd.func45, Tryd.ntmps45
  go_wp2_with (go_at_call 46; refine (isbC_impl _ _).mono ?_; rintro e w' ⟨rfl, rfl⟩)
  go_ret
  exact ⟨rfl, rfl⟩
set_option maxRecDepth 100000 in
theorem index_impl (a : Option Addr) (cap : Nat) (zs : List Int) (w : World) (h : RowR w (.slice a zs.length cap) zs) (hl : zs.length ≤ 1000) :
    Calls Tryd.prog 69 #[.slice a zs.length cap, .func (.func 45) #[] #[]] w fun e w' => ∃ r : Int, e = .returned (.int .i64 r) ∧ decide (0 ≤ r) = !(zs.all fun z => inB z 0 255) ∧ w' = w := by
  have hd := hid h.disj
  clear h
  go_enter Tryd.func69, Tryd.ntmps69
  go_wp2
  go_loopw [8] (fun i wr => ∃ k : Nat, k ≤ zs.length ∧ i = .int .i64 k ∧ wr = w ∧ ∀ j, j < k → inB (zs.getD j 0) 0 255 = true) (fun i _ => zs.length - (intOf i).toNat)
  case atStart => exact ⟨0, Nat.zero_le _, rfl, rfl, fun j hj => absurd hj (Nat.not_lt_zero _)⟩
  case round =>
    obtain ⟨k, hk, rfl, rfl, hall⟩ := hrel
    by_cases hlt : k < zs.length
    · obtain ⟨b, off, rfl, c1⟩ := row_some hd.out hlt
      have k0 : (0 : Int) ≤ (k : Int) := by omega
      have k1 : (k : Int) < (zs.length : Int) := by omega
      have hN := hid (fun W => notbyte_impl (zs.getD k 0) W)
      cases hx : inB (zs.getD k 0) 0 255
      · have hF : Hid (decide ((0 : Int) ≤ (k : Int)) = !(zs.all fun z => inB z 0 255)) := by
          have h1 : zs.all (fun z => inB z 0 255) = false := by
            rw [List.all_eq_false]
            exact ⟨zs.getD k 0, by rw [List.getD_eq_getElem?_getD, List.getElem?_eq_getElem hlt]; exact List.getElem_mem hlt, by rw [hx]; decide⟩
          show _ = _
          rw [h1]
          simp
        rw [hx] at hN
        clear hall hx
        generalize zs.getD k 0 = z at *
        go_wp2_with (go_at_call 45; refine (hN.out _).mono ?_; rintro e w' ⟨rfl, hww⟩; obtain rfl := hww.symm)
        go_ret
        exact ⟨_, rfl, hF.out, rfl⟩
      · have hall2 : Hid (∀ j, j < k + 1 → inB (zs.getD j 0) 0 255 = true) := fun j hj => by
          rcases Nat.lt_or_ge j k with h1 | h1
          · exact hall j h1
          · obtain rfl : j = k := by omega
            exact hx
        rw [hx] at hN
        clear hall hx
        generalize zs.getD k 0 = z at *
        go_wp2_with (go_at_call 45; refine (hN.out _).mono ?_; rintro e w' ⟨rfl, hww⟩; obtain rfl := hww.symm)
        go_roundw
        case rel => exact ⟨k + 1, by omega, by go_num, trivial, hall2.out⟩
        case measure => simp [intOf]; omega
    · obtain rfl : k = zs.length := by omega
      have hF : Hid (decide ((0 : Int) ≤ (-1 : Int)) = !(zs.all fun z => inB z 0 255)) := by
        have h1 : zs.all (fun z => inB z 0 255) = true := by
          rw [List.all_eq_true]
          intro z hz
          obtain ⟨j, hj, rfl⟩ := List.mem_iff_getElem.1 hz
          have := hall j hj
          rwa [List.getD_eq_getElem?_getD, List.getElem?_eq_getElem hj] at this
        show _ = _
        rw [h1]
        decide
      clear hall
      go_wp2
      go_ret
      exact ⟨_, rfl, hF.out, rfl⟩
theorem contains_impl (a : Option Addr) (cap : Nat) (zs : List Int) (w : World) (h : RowR w (.slice a zs.length cap) zs) (hl : zs.length ≤ 1000) :
    Calls Tryd.prog 44 #[.slice a zs.length cap, .func (.func 45) #[] #[]] w fun e w' => e = .returned (.bool !(zs.all fun z => inB z 0 255)) ∧ w' = w := by
  have hX := hid (index_impl a cap zs w h hl)
  clear h
  go_enter Tryd.func44, Tryd.ntmps44
  go_wp2_with fail
  refine hX.out.mono ?_
  rintro e w1 ⟨r, rfl, hr, hww⟩
  obtain rfl := hww.symm
  replace hr := hid hr
  clear hX
  go_wp2
  go_ret
  exact ⟨ret_bool hr.out, rfl⟩
set_option maxRecDepth 100000 in
theorem list_impl (a : Option Addr) (cap : Nat) (zs : List Int) (w : World) (h : RowR w (.slice a zs.length cap) zs) (hl : zs.length ≤ 1048576) (hKd : Kinds w) (hT : PowT w) :
    Calls Tryd.prog 17 #[.slice a zs.length cap] w fun e w' => ∃ v, e = .returned (.tuple #[v, .int .i64 (lc2 zs).2]) ∧ w'.ownsRow w.heap.size 9 1 v (lc2 zs).1.length ((lc2 zs).1.map Value.string) ∧ Below w.heap.size w w' := by
  have hnil := hid (World.ownsRow_nil w w.heap.size 9 1)
  by_cases h1 : 4096 < zs.length
  · have e : lc2 zs = ([], 2) := by unfold lc2; rw [if_pos h1]
    rw [e]
    clear e h
    go_enter Tryd.func17, Tryd.ntmps17
    go_wp2
    go_ret2
    exact ⟨_, rfl, hnil.out, Below.refl _ _⟩
  by_cases h2 : 256 < zs.length
  · have e : lc2 zs = ([], 8) := by unfold lc2; rw [if_neg h1, if_pos h2]
    rw [e]
    clear e h
    go_enter Tryd.func17, Tryd.ntmps17
    go_wp2
    go_ret2
    exact ⟨_, rfl, hnil.out, Below.refl _ _⟩
  have hC := hid (contains_impl a cap zs w h (by omega))
  have i1 : decide ((4096 : Int) < (zs.length : Int)) = false := by simp; omega
  have i2 : decide ((256 : Int) < (zs.length : Int)) = false := by simp; omega
  cases hal : zs.all (fun z => inB z 0 255)
  · have e : lc2 zs = ([], 4) := by unfold lc2; rw [if_neg h1, if_neg h2, hal]; rfl
    rw [e]
    rw [hal] at hC
    clear e h
    go_enter Tryd.func17, Tryd.ntmps17
    go_wp2_with fail
    refine hC.out.mono ?_
    rintro e w1 ⟨rfl, hww⟩
    obtain rfl := hww.symm
    clear hC
    go_wp2
    go_ret2
    exact ⟨_, rfl, hnil.out, Below.refl _ _⟩
  have e : lc2 zs = ((lcS zs zs.length).2, 0) := by unfold lc2; rw [if_neg h1, if_neg h2, if_pos hal]
  rw [e]
  rw [hal] at hC
  clear e
  have hL := hid (listed_impl a cap zs w h (by omega) hal hKd hT)
  clear h hal hKd hT
  go_enter Tryd.func17, Tryd.ntmps17
  go_wp2_with fail
  refine hC.out.mono ?_
  rintro e w1 ⟨rfl, hww⟩
  obtain rfl := hww.symm
  clear hC
  go_wp2_with fail
  refine hL.out.mono ?_
  rintro e w2 ⟨v, rfl, ho, hb⟩
  have ho2 := hid ho
  have hb2 := hid hb
  clear ho hb hL
  go_wp2
  go_ret2
  exact ⟨_, rfl, ho2.out, hb2.out⟩
end Go.Proofs.YtneagomkohoceaaDoor
