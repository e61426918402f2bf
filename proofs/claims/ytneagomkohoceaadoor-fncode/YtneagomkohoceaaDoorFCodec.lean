/- For all bytes the law FnCode returns true: instructions are read back from their bytes and from their texts; the tables being as the program's text lays them. -/
import Derived.Test.YtneagomkohoceaaDoorCards
import Derived.Test.YtneagomkohoceaaDoorTie
import Derived.Test.YtneagomkohoceaaDoorSrcc
import Derived.Test.YtneagomkohoceaaDoorTzdc
import Derived.Test.YtneagomkohoceaaDoorTzec
import Derived.Test.YtneagomkohoceaaDoorTycc
import Derived.Test.YtneagomkohoceaaDoorC46
import Derived.Test.YtneagomkohoceaaDoorKgc
import Derived.Test.YtneagomkohoceaaDoorKdc
import Derived.Test.YtneagomkohoceaaDoorKkc
import Derived.Test.YtneagomkohoceaaDoorKoc
import Derived.Test.YtneagomkohoceaaDoorIrc
import Derived.WalkKit
import Derived.ProofKit
import Derived.OpenShut
import Derived.ShutString
import Derived.ChangeOld
import Derived.Below
import Derived.LaidMore
import Derived.OpenVars
import Derived.SevenTiedAt
import Derived.Stop.Joined
import Derived.Lib.SmallJoins
namespace Go.Proofs.YtneagomkohoceaaDoor.fnCode
open Go.ChangeShapes Go.WideShapes Go.ChangeAt Go.RowKit Go.Joins
open Go.ChangeMaps (open_string shut_string)
set_option linter.unusedVariables false

theorem own : ownKnob Tryd.prog.godebug = none := by kernel_rfl
theorem laidOut : laidOutB Tryd.prog = true := by kernel_rfl

def IsRow (k : IntKind) (w : World) (a : Option Addr) (len cap : Nat) (zs : List Int) : Prop :=
  (a = none ∧ len = 0 ∧ cap = 0 ∧ zs = []) ∨
  ∃ x, a = some x ∧ len ≤ cap ∧ cap ≤ maxLen ∧ zs.length = cap ∧ (∀ i, i < zs.length → w.cell? (x.add i) = some (.int k (zs.getD i 0))) ∧ ∀ n ∈ zs, (Lit.int k n).wf = true

set_option maxRecDepth 100000 in
set_option maxHeartbeats 8000000 in
theorem walk (a0 : Option Addr) (len0 cap0 : Nat) (z0 : List Int) (a1 : Option Addr) (len1 cap1 : Nat) (z1 : List Int) (w : World) (w0 : IsRow .u8 w a0 len0 cap0 z0) (w1 : IsRow .u8 w a1 len1 cap1 z1) (hL : Kinds w ∧ PowT w) :
    Calls Tryd.prog 3 #[.slice a0 len0 cap0, .slice a1 len1 cap1] w fun e w' => e = .returned (.bool true) ∧ Below w.heap.size w w' := by
  obtain ⟨hKd, hPw⟩ := hL
  have hc0 := codeAt_of w0
  have hc1 := codeAt_of w1
  have hnn : ∀ (zs : List Int) (a : Option Addr) (len cap : Nat), IsRow .u8 w a len cap zs → len ≤ maxLen := by
    intro zs a len cap h
    rcases h with ⟨_, rfl, _, _⟩ | ⟨x, _, hl, hm, _⟩
    · exact Nat.zero_le _
    · omega
  have hl0 := hnn _ _ _ _ w0
  have hl1 := hnn _ _ _ _ w1
  clear hnn w0 w1
  unfold maxLen at hl0 hl1
  by_cases h1 : 1048576 < len0
  · go_enter Tryd.func3, Tryd.ntmps3
    go_wp2
    go_ret
    exact ⟨rfl, Below.refl _ _⟩
  by_cases h2 : 1048576 < len1
  · go_enter Tryd.func3, Tryd.ntmps3
    go_wp2
    go_ret
    exact ⟨rfl, Below.refl _ _⟩
  obtain ⟨i0, hi0, hz0, hz1, hz2⟩ := info_parts infoM
  have hDr := hid (instrdrawn a0 len0 cap0 w hc0 (by omega))
  have hAt := hid (fun (W : World) (hb : Below w.heap.size w W) => at_any a1 len1 cap1 0 256 W.heap.size W (hc1.below hb hb.size) (by omega) (by omega) (by omega) (by omega))
  replace hKd := hid hKd
  replace hPw := hid hPw
  clear hc0 hc1 hl0 hl1
  go_enter Tryd.func3, Tryd.ntmps3
  go_wp2_with fail
  refine hDr.out.mono ?_
  rintro e w2 ⟨x, y, ⟨hx0, hx1⟩, ⟨hy0, hy1⟩, rfl, hb2⟩
  obtain ⟨o, a, b, n, l, t, T, zs, hV, hok, hoc, her, rfl, hl2, hzb, htx, hTs, hrd, hlc, hdc, htm, ht4⟩ := code_facts hx0 hx1 hy0 hy1
  rw [hV]
  have hlz : zs.length ≤ 2 := by omega
  have S2b : Cd w (w2.alloc (.cells (insA o a b n zs.length) 24)) w2.heap.size o a b n zs.length := ⟨hb2.alloc hb2.size _, Blk.new _ _ _, (hKd.out.below hb2).below ((Below.refl _ _).alloc (Nat.le_refl _) _), (hPw.out.up hb2).up ((Below.refl _ _).alloc (Nat.le_refl _) _)⟩
  obtain ⟨X, hX⟩ : ∃ b, w2.heap.size = b := ⟨_, rfl⟩
  obtain ⟨V2, hV2⟩ : ∃ W, w2.alloc (.cells (insA o a b n zs.length) 24) = W := ⟨_, rfl⟩
  rw [hX, hV2] at S2b
  replace hV2 := hid hV2
  replace hdc := hid hdc
  replace hrd := hid hrd
  replace hzb := hid hzb
  replace hl2 := hid hl2
  clear hb2 hDr hKd hPw hV hx0 hx1 hy0 hy1
  clear x y
  go_upto_region 4 with fail
  (try rw [hX])
  rw [hV2.out]
  clear hX hV2
  have S2 := hid S2b
  clear S2b
  have xd := S2.out.box.cell
  go_wp2_with fail
  refine (enc_impl o a b n _ _ S2.out.kd).mono ?_
  rintro e w3 ⟨u3, rfl, hu, hb⟩
  rw [her] at hu
  rw [hoc]
  have r3 := hu.reads
  obtain ⟨a6, c6, rfl, -⟩ := id r3
  have S3 := hid (S2.out.below hb)
  replace r3 := hid r3
  clear hu hb S2 xd
  have xd := S3.out.box.cell
  go_wp2_with fail
  refine (enc_spec o a b n _ _).mono ?_
  rintro e w4 ⟨u4, rfl, hu, hb⟩
  rw [her] at hu
  rw [hoc]
  have r4 := hid hu.reads
  have r3' := hid (r3.out.below hb)
  have S4 := hid (S3.out.below hb)
  clear hu hb S3 xd r3 her hoc
  have xd := S4.out.box.cell
  go_wp2_with fail
  refine (sameX_yes _ _ zs _ r3'.out r4.out (by omega)).mono ?_
  rintro e w5 ⟨rfl, k5, rfl⟩
  have S5 := hid (S4.out.below (Below.drewN _ k5 _))
  have r5 := hid (r3'.out.below (Below.drewN _ k5 _))
  obtain ⟨V5, hV5⟩ : ∃ W, w4.drewN k5 = W := ⟨_, rfl⟩
  rw [hV5] at S5 r5 ⊢
  clear hV5 S4 r4 r3' xd
  have xd := S5.out.box.cell
  go_wp2_with fail
  refine (insok_impl o a b n _ _ S5.out.kd).mono ?_
  rintro e w6 ⟨rfl, hb⟩
  rw [hok]
  have S6 := hid (S5.out.below hb)
  have r6 := hid (r5.out.below hb)
  clear hb S5 r5 xd
  obtain ⟨b6, off6, rfl⟩ := rowC_some r6.out hl2.out
  have own0 : Hid ((w6.alloc (.cells #[] 3)).ownsRow w6.heap.size 3 1 (.slice (some ⟨w6.heap.size, 0, none⟩) 0 0) 0 []) := World.ownsRow_lit (e := 3) (size := 1) (base := w6.heap.size) w6 #[] 0 (Nat.le_refl _) (by decide) rfl
  have hnews := hid (newsC (r6.out.below ((Below.refl w6.heap.size w6).alloc (Nat.le_refl _) (.cells #[] 3))))
  have hfin : Hid (∀ (g cap9 : Nat) (w3 : World), w3.ownsRow w6.heap.size 3 1 (.slice (some ⟨g, 0, none⟩) (0 + zs.length) cap9) (0 + zs.length) ([] ++ zs.map (Value.int .i64)) → (w6.alloc (.cells #[] 3)).grownBy w3 (Value.slice (some ⟨w6.heap.size, 0, none⟩) 0 0).ownBlock → ((Value.slice (some ⟨w6.heap.size, 0, none⟩) 0 0).ownBlock = some g ∨ g = (w6.alloc (.cells #[] 3)).heap.size) → w3.ownsRow w6.heap.size 3 1 (.slice (some ⟨g, 0, none⟩) zs.length cap9) zs.length (zs.map (Value.int .i64)) ∧ Below w6.heap.size w6 w3 ∧ w6.heap.size ≤ g) := fun g cap9 w3 ho hg hat => by
    rw [Nat.zero_add, List.nil_append] at ho
    refine ⟨ho, ((Below.refl _ _).alloc (Nat.le_refl _) _).grown hg (by simp) (fun b' hb => ?_), ?_⟩
    · have hb2 : w6.heap.size = b' := by simpa [Value.ownBlock] using hb
      omega
    · rcases hat with e | e
      · have : w6.heap.size = g := by simpa [Value.ownBlock] using e
        omega
      · rw [World.size_alloc] at e
        omega
  have hz0' : 0 < zs.length := by have := hl2.out; omega
  have hbw := S6.out.bel
  replace hbw := hid hbw
  go_wp2_with (first
    | (at_builtin; refine wpList_append_lies _ rfl _ _ 26 rfl w6.heap.size 3 i0 _ 1 8 Tryd.underlying26 hi0 hz0 hz1 hz2 rfl (by omega) _ 0 [] rfl own0.out ⟨b6, off6, none⟩ zs.length c6 (zs.map (Value.int .i64)) rfl (by rw [List.length_map, Nat.mul_one]) hnews.out oneC hz0' (by unfold maxLen; omega) (by omega) (by simp) _ rfl ?_; intro g1 c1 w7 ho hg hat hlt3; obtain ⟨ho7, hB7, hg1⟩ := hfin.out _ _ _ ho hg hat; rw [Nat.zero_add]; replace ho7 := hid ho7; replace hB7 := hid hB7; clear ho hg hat hlt3 own0 hnews hfin)
    | (go_at_call 12; refine (hAt.out _ (new_trans hbw.out hB7.out)).mono ?_; rintro e w8 ⟨⟨z, rfl, zn0, -, zn1⟩, hb⟩; have zn2 := zn1 (by omega); have ho8 := hid (ownX_below ho7.out hb); have hB8 := hid (new_trans hB7.out hb); clear hb ho7 hB7 zn1)
    | (at_builtin; refine holdC ?_)
    | fail)
  refine hid ?_
  have hle8 : w6.heap.size ≤ (w8.alloc (.cells #[.int .i64 z] 3)).heap.size := by have := hB8.out.size; rw [World.size_alloc]; omega
  refine wpList_append_lies _ rfl _ _ 26 rfl w6.heap.size 3 i0 _ 1 8 Tryd.underlying26 hi0 hz0 hz1 hz2 rfl (by omega) (.slice (some ⟨g1, 0, none⟩) zs.length c1) zs.length (zs.map (Value.int .i64)) rfl (ho8.out.alloc _) ⟨_, 0, none⟩ 1 1 [.int .i64 z] rfl rfl (World.news_of_block (cs := #[.int .i64 z]) (t := 3) (fr := (0, 0)) (heap_alloc_new _ _)) (by simp [Value.oneCell']) (by omega) (by unfold maxLen; omega) (by omega) hle8 _ rfl ?_
  intro g2 c2 w9 ho hg hat hlt5
  have hB9 := hid ((hB8.out.alloc hB8.out.size (.cells #[.int .i64 z] 3)).grown hg (by have := hB8.out.size; simp; omega) (fun k hk => by have : g1 = k := (by simpa [Value.ownBlock] using hk); omega))
  have ho9 := hid ho
  clear ho hg hat hlt5 ho8 hB8 hle8
  go_upto_region 9 with fail
  have hc2 := capC_of_own ho9.out
  have R9 := hid (rowC_of_own (L := zs ++ [z]) (k := 2) (c := c2) (by rw [List.map_append]; exact ho9.out) (by simp) (by omega))
  have S9 := hid (S6.out.below hB9.out)
  have r9 := hid (r6.out.below hB9.out)
  have hc3 : 2 ≤ c2 := by omega
  have hc4 : c2 ≤ maxLen := hc2.2
  unfold maxLen at hc4
  clear hc2 ho9 hB9 hbw S6 r6 hg1
  go_wp2_with fail
  refine (dec_impl _ _ _ S9.out.kd R9.out (by simp; omega)).mono ?_
  rintro e w10 ⟨rfl, hb⟩
  rw [hdc.out z zn0 (by omega)]
  have S10b := S9.out.below hb
  have r10b := r9.out.below hb
  have hy := Blk.new w10 (insA o a b n zs.length) 24
  have S10c := S10b.below ((Below.refl _ _).alloc (Nat.le_refl _) (.cells (insA o a b n zs.length) 24))
  have r10c := r10b.below ((Below.refl _ _).alloc (Nat.le_refl _) (.cells (insA o a b n zs.length) 24))
  obtain ⟨Y, hY⟩ : ∃ b, w10.heap.size = b := ⟨_, rfl⟩
  obtain ⟨V, hV⟩ : ∃ W, w10.alloc (.cells (insA o a b n zs.length) 24) = W := ⟨_, rfl⟩
  rw [hY, hV] at hy
  rw [hV] at S10c r10c
  replace hV := hid hV
  clear hb S9 r9 R9 S10b r10b hdc
  go_upto_region 10 with fail
  (try rw [hY])
  rw [hV.out]
  clear hY hV
  have S10 := hid S10c
  have r10 := hid r10c
  have qy := hid hy
  clear S10c r10c hy
  have xd := S10.out.box.cell
  go_wp2_with fail
  refine (text_impl o a b n _ _ S10.out.kd S10.out.pw).mono ?_
  rintro e w11 ⟨rfl, hb⟩
  rw [htx]
  have S11 := hid (S10.out.below hb)
  have r11 := hid (r10.out.below hb)
  have qy1 := hid (qy.out.below hb qy.out.lt)
  clear hb S10 r10 qy xd
  have xd := S11.out.box.cell
  go_wp2_with fail
  refine (text_spec o a b n _ _).mono ?_
  rintro e w12 ⟨rfl, hb⟩
  rw [htx]
  have S12 := hid (S11.out.below hb)
  have r12 := hid (r11.out.below hb)
  have qy2 := hid (qy1.out.below hb qy1.out.lt)
  clear hb S11 r11 qy1 xd
  have hs1 : (⟨#[32, 32]⟩ : ByteArray).size = 2 := rfl
  have hs2 : (⟨#[32]⟩ : ByteArray).size = 1 := rfl
  go_wp2_with fail
  have hsz : (spcT T).size ≤ maxLen := by unfold spcT maxLen; rw [ByteArray.size_append, ByteArray.size_append, hs1, hs2]; omega
  refine (readi_impl (spcT T) _ S12.out.kd hsz).mono ?_
  rintro e w13 ⟨hE, hb⟩
  obtain rfl := RdE.one hE hrd.out
  have S13c := (S12.out.below hb).below ((Below.refl _ _).alloc (Nat.le_refl _) (.cells (insA o a b n zs.length) 24))
  have r13c := (r12.out.below hb).below ((Below.refl _ _).alloc (Nat.le_refl _) (.cells (insA o a b n zs.length) 24))
  have qy3c := (qy2.out.below hb qy2.out.lt).alloc (.cells (insA o a b n zs.length) 24)
  have hy := Blk.new w13 (insA o a b n zs.length) 24
  obtain ⟨Z, hZ⟩ : ∃ b, w13.heap.size = b := ⟨_, rfl⟩
  obtain ⟨V13, hV⟩ : ∃ W, w13.alloc (.cells (insA o a b n zs.length) 24) = W := ⟨_, rfl⟩
  rw [hZ, hV] at hy
  rw [hV] at S13c r13c qy3c
  replace hV := hid hV
  clear hb S12 r12 qy2 hE hrd hsz hs1 hs2
  go_upto_region 13 with fail
  (try rw [hZ])
  rw [hV.out]
  clear hZ hV
  have S13 := hid S13c
  have r13 := hid r13c
  have qy3 := hid qy3c
  have qz3 := hid hy
  clear S13c r13c qy3c hy
  go_wp2_with fail
  refine (list_impl _ _ zs _ r13.out (by omega) S13.out.kd S13.out.pw).mono ?_
  rintro e w14 ⟨v14, rfl, hO, hb⟩
  have hlc1 : (lc2 zs).1 = [⟨#[48, 48, 32]⟩ ++ T] := by rw [hlc]
  have hlc2 : (lc2 zs).2 = 0 := by rw [hlc]
  rw [hlc1] at hO
  rw [hlc2]
  replace hO : w14.ownsRow V13.heap.size 9 1 v14 1 [.string (⟨#[48, 48, 32]⟩ ++ T)] := hO
  obtain ⟨g14, c14, rfl⟩ : ∃ g c, v14 = .slice (some ⟨g, 0, none⟩) 1 c := by
    rcases hO.2 with ⟨_, h0⟩ | ⟨g, c, _, hv, _⟩
    · cases h0
    · exact ⟨g, c, hv⟩
  clear hlc1 hlc2
  have S14 := hid (S13.out.below hb)
  have qy4 := hid (qy3.out.below hb qy3.out.lt)
  have qz4 := hid (qz3.out.below hb qz3.out.lt)
  have hO14 := hid hO
  clear hb S13 r13 qy3 qz3 hO hlc
  have xd := S14.out.box.cell
  go_wp2_with fail
  refine (time_impl o a b n _ _ S14.out.kd).mono ?_
  rintro e w15 ⟨rfl, hb⟩
  rw [htm]
  have S15 := hid (S14.out.below hb)
  have qy5 := hid (qy4.out.below hb qy4.out.lt)
  have qz5 := hid (qz4.out.below hb qz4.out.lt)
  have hO15 := hid (ownX_below hO14.out hb)
  clear hb S14 qy4 qz4 hO14 xd
  have xd := S15.out.box.cell
  go_wp2_with fail
  refine (time_spec o a b n _ _).mono ?_
  rintro e w16 ⟨rfl, hb⟩
  rw [htm]
  have S16 := hid (S15.out.below hb)
  have qy6 := hid (qy5.out.below hb qy5.out.lt)
  have qz6 := hid (qz5.out.below hb qz5.out.lt)
  have hO16 := hid (ownX_below hO15.out hb)
  clear hb S15 qy5 qz5 hO15 xd
  have xd := S16.out.box.cell
  have yd := qy6.out.cell
  have zd := qz6.out.cell
  have ld : w16.cell? ⟨g14, 0, none⟩ = some (.string (⟨#[48, 48, 32]⟩ ++ T)) := hO16.out.cellAt 0 (by omega)
  have hfin := hid S16.out.bel
  have he := eqInsX o a b n zs.length
  clear S16 qy6 qz6 hO16
  go_wp2_with fail
  go_ret
  exact ⟨rfl, hfin.out⟩

theorem door_met (os : Os) (args : Array Value) : laidMetH Tryd.prog Rows.fnCodeRow.laid ((World.doorLaid Tryd.prog 400 os).forCall (fun _ _ => 0) ⟨#[], args, []⟩).memory :=
  laidMetH_of_parts3 (fuel := 8) (laidMet_of_run' 8 (by kernel_rfl) (by kernel_rfl)) (by kernel_rfl) (by kernel_rfl)

set_option maxRecDepth 100000 in
theorem lifted (os : Os) (started : os.Started) (H : Type) (enc : TypeId × Value → H) :
    ReturnsInHanded {} Tryd.checked os 3 .any (fun w args => (Rows.fnCodeSpec.pre enc Tryd.prog Tryd.f3 [] false w args ∧ laidMetH Tryd.prog Rows.fnCodeRow.laid w) ∧ sizedMet enc Tryd.prog Tryd.f3 (OpenSpec.ofChange Rows.fnCodeSpec) false w args)
      (Rows.fnCodeSpec.post enc Tryd.prog Tryd.f3 false true false false) := by
  refine returnsInHanded_of_change_and (C := Tryd.checked) (X := fun w _ => laidMetH Tryd.prog Rows.fnCodeRow.laid w) (fun _ _ _ hh h => h.of_heap hh) own started (by kernel_rfl) Tryd.func3
    (ChangeSpec.witness_shaped (enc := enc) (C := Tryd.checked) (os := os) (X := fun w _ => laidMetH Tryd.prog Rows.fnCodeRow.laid w) false (World.doorLaid Tryd.prog 400 os) #[.slice none 0 0, .slice none 0 0] 8 rfl (World.shaped_of_RefB (by kernel_rfl) (by kernel_rfl)) (by kernel_rfl) (by kernel_rfl) (by kernel_rfl) (door_met os _)) ?_
  intro W base args ds gs before hval0 hW _ _ hL _
  have hval : ∀ (j : Nat) t v, Tryd.f3.params[j]? = some t → args[j]? = some v → Value.okWide Tryd.prog W .any base t v := hval0
  have hW' := hW
  obtain ⟨p, q, hA0, hV, hbefore, hfz, hnd⟩ := hW
  have hA : DataW.TrodAll enc Tryd.prog W 0 (fun _ => true) true Tryd.f3.params.toList args.toList ds p := hA0
  rw [Tryd.params3] at hA hval
  obtain ⟨v0, vs0, d0, ds0, p0, q0, hargs, rfl, rfl, h0, r0⟩ := trodAll_cons hA
  obtain ⟨v1, vs1, d1, ds1, p1, q1, rfl, rfl, rfl, h1, r1⟩ := trodAll_cons r0
  obtain ⟨rfl, rfl, rfl⟩ := trodAll_nil r1
  obtain rfl : args = #[v0, v1] := by cases args; simp_all
  obtain ⟨g0, rfl⟩ := vars1_form hV
  obtain ⟨a0, len0, cap0, rfl⟩ := okWide_slice Tryd.underlying22 (hval 0 22 v0 rfl rfl)
  have k0 := h0
  have lt0 : ∀ x ∈ p0, x.block < W.heap.size := by obtain ⟨m, hm⟩ := k0; exact DataW.trod_lt m _ _ _ hm
  obtain ⟨z0, w0⟩ : ∃ zs, IsRow .u8 W a0 len0 cap0 zs := by
    obtain ⟨fuel, hf⟩ := h0
    rcases open_ints Tryd.underlying22 Tryd.underlying5 (by kernel_rfl) hf with ⟨hcs, _⟩ | ⟨x, l, c, zs, hcs, _, hl, hm, hz, _, hcell, hwz⟩
    · simp [Value.cells] at hcs
      obtain ⟨rfl, rfl, rfl⟩ := hcs
      exact ⟨[], .inl ⟨rfl, rfl, rfl, rfl⟩⟩
    · simp [Value.cells] at hcs
      obtain ⟨rfl, rfl, rfl⟩ := hcs
      exact ⟨zs, .inr ⟨_, rfl, hl, hm, by simpa using hz, hcell, hwz⟩⟩
  obtain ⟨a1, len1, cap1, rfl⟩ := okWide_slice Tryd.underlying22 (hval 1 22 v1 rfl rfl)
  have k1 := h1
  have lt1 : ∀ x ∈ p1, x.block < W.heap.size := by obtain ⟨m, hm⟩ := k1; exact DataW.trod_lt m _ _ _ hm
  obtain ⟨z1, w1⟩ : ∃ zs, IsRow .u8 W a1 len1 cap1 zs := by
    obtain ⟨fuel, hf⟩ := h1
    rcases open_ints Tryd.underlying22 Tryd.underlying5 (by kernel_rfl) hf with ⟨hcs, _⟩ | ⟨x, l, c, zs, hcs, _, hl, hm, hz, _, hcell, hwz⟩
    · simp [Value.cells] at hcs
      obtain ⟨rfl, rfl, rfl⟩ := hcs
      exact ⟨[], .inl ⟨rfl, rfl, rfl, rfl⟩⟩
    · simp [Value.cells] at hcs
      obtain ⟨rfl, rfl, rfl⟩ := hcs
      exact ⟨zs, .inr ⟨_, rfl, hl, hm, by simpa using hz, hcell, hwz⟩⟩
  clear hA0 hval0
  refine (walk a0 len0 cap0 z0 a1 len1 cap1 z1 W w0 w1 (code_laid hL)).mono fun e W' ⟨he, bel⟩ => ?_
  subst he
  exact ⟨_, rfl, _, _, _, [], _, _, hW', trodAll_mk1 (shut_bool Tryd.underlying4 _), (trodAll_cons_mk (Below.trod laidOut (by kernel_rfl) (of_decide_eq_true (by kernel_rfl)) k0 bel lt0) (trodAll_cons_mk (Below.trod laidOut (by kernel_rfl) (of_decide_eq_true (by kernel_rfl)) k1 bel lt1) trodAll_mk0)), Below.trodVars laidOut bel (by kernel_rfl) hV, bel.frame _, fun h => by cases h⟩

theorem said : Rows.FnCodeSaid :=
  OpenClaim.holds_of_wide 3 Tryd.f3 rfl rfl rfl rfl rfl rfl rfl ⟨rfl, rfl, rfl, rfl, rfl⟩ rfl rfl rfl rfl rfl (by kernel_rfl) Tryd.func3 (by kernel_rfl)
    (of_decide_eq_true (by kernel_rfl)) (by unfold Func.isWrapper; first | (rw [if_pos (by decide +kernel)]; kernel_rfl) | (rw [if_neg (by decide +kernel)]; exact ⟨rfl, rfl⟩))
    (fun os started H enc _ => lifted os started H enc)

theorem card : Rows.FnCodeCardSaid :=
  Claim7.holds_tied_plain_at .later [] _ _ _ _ said (fun _ h => by cases h) (by kernel_rfl) (fun _ h => by cases h) fnCode_row_tie rfl ⟨rfl, rfl⟩ (by kernel_rfl) rfl
    (fun f fn hf hfn => by
      obtain rfl : f = 3 := Option.some.inj ((show Tryd.prog.funcNamed "loop.example/g00644/laws.FnCode" = some 3 by kernel_rfl).symm.trans hf) |>.symm
      obtain rfl : fn = Tryd.f3 := (Option.some.inj (Tryd.func3.symm.trans hfn)).symm
      exact ⟨by kernel_rfl, fun j t ht => by
        rw [Tryd.params3] at ht
        have hm : t ∈ [22, 22] := by simpa using Array.mem_of_getElem? ht
        have hall : ([22, 22].all fun u => !Tryd.prog.wantsStandIn u) = true := by kernel_rfl
        exact (show Tryd.prog.wantsStandIn t = false by simpa using List.all_eq_true.1 hall t hm)⟩)
    (by kernel_rfl)
end Go.Proofs.YtneagomkohoceaaDoor.fnCode
namespace Go.Proofs.YtneagomkohoceaaDoor
theorem fnCode_holds : Rows.FnCodeCardSaid := fnCode.card
#print axioms fnCode_holds
end Go.Proofs.YtneagomkohoceaaDoor
