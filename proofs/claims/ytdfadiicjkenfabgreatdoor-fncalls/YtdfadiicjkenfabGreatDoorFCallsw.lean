/- For all bytes the law FnCalls returns true: a call that comes back is where it was, with the stack where it was, and what is pushed is popped; the tables of flags, of kinds and of conditions being as the program's text lays them. -/
import Derived.Test.YtdfadiicjkenfabGreatDoorCards
import Derived.Test.YtdfadiicjkenfabGreatDoorTie
import Derived.Test.YtdfadiicjkenfabGreatDoorW11
import Derived.Test.YtdfadiicjkenfabGreatDoorW38
import Derived.Test.YtdfadiicjkenfabGreatDoorJhw
import Derived.Test.YtdfadiicjkenfabGreatDoorW43
import Derived.Test.YtdfadiicjkenfabGreatDoorW46
import Derived.Test.YtdfadiicjkenfabGreatDoorW41
import Derived.Test.YtdfadiicjkenfabGreatDoorW47
import Derived.Test.YtdfadiicjkenfabGreatDoorJrw
import Derived.Test.YtdfadiicjkenfabGreatDoorW24
import Derived.Test.YtdfadiicjkenfabGreatDoorW48
import Derived.Test.YtdfadiicjkenfabGreatDoorKvw
import Derived.WalkKit
import Derived.ProofKit
import Derived.OpenShut
import Derived.ShutString
import Derived.ChangeOld
import Derived.Below
import Derived.LaidMore
import Derived.OpenVars
import Derived.SevenTiedAt
import Derived.Stop.Joined
import Derived.Lib.SmallJoins
import Derived.Deep.RegionHeld3
import Derived.Deep.RegionWith
namespace Go.Proofs.YtdfadiicjkenfabGreatDoor.fnCalls
open Go.ChangeShapes Go.WideShapes Go.ChangeAt Go.RowKit Go.Joins
open Go.ChangeMaps (open_string shut_string)
set_option linter.unusedVariables false

theorem own : ownKnob Tryz.prog.godebug = none := by kernel_rfl
theorem laidOut : laidOutB Tryz.prog = true := by kernel_rfl

def IsRow (k : IntKind) (w : World) (a : Option Addr) (len cap : Nat) (zs : List Int) : Prop :=
  (a = none ∧ len = 0 ∧ cap = 0 ∧ zs = []) ∨
  ∃ x, a = some x ∧ len ≤ cap ∧ cap ≤ maxLen ∧ zs.length = cap ∧ (∀ i, i < zs.length → w.cell? (x.add i) = some (.int k (zs.getD i 0))) ∧ ∀ n ∈ zs, (Lit.int k n).wf = true

set_option maxRecDepth 100000 in
set_option maxHeartbeats 8000000 in
theorem walk (a0 : Option Addr) (len0 cap0 : Nat) (z0 : List Int) (a1 : Option Addr) (len1 cap1 : Nat) (z1 : List Int) (w : World) (w0 : IsRow .u8 w a0 len0 cap0 z0) (w1 : IsRow .u8 w a1 len1 cap1 z1) (hL : Flags w ∧ Kinds w ∧ Conds w) :
    Calls Tryz.prog 4 #[.slice a0 len0 cap0, .slice a1 len1 cap1] w fun e w' => e = .returned (.bool true) ∧ Below w.heap.size w w' := by
  have hc0 := codeAt_of w0
  have hc1 := codeAt_of w1
  have hnn : ∀ (zs : List Int) (a : Option Addr) (len cap : Nat), IsRow .u8 w a len cap zs → len ≤ maxLen := by
    intro zs a len cap h
    rcases h with ⟨_, rfl, _, _⟩ | ⟨x, _, hl, hm, _⟩
    · exact Nat.zero_le _
    · omega
  have hl0 := hnn _ _ _ _ w0
  have hl1 := hnn _ _ _ _ w1
  clear hnn w0 w1
  unfold maxLen at hl0 hl1
  by_cases h1 : 1048576 < len0
  · go_enter Tryz.func4, Tryz.ntmps4
    go_wp2
    go_ret
    exact ⟨rfl, Below.refl _ _⟩
  by_cases h2 : 1048576 < len1
  · go_enter Tryz.func4, Tryz.ntmps4
    go_wp2
    go_ret
    exact ⟨rfl, Below.refl _ _⟩
  have hC : Hid (∀ W', Below w.heap.size w W' → CodeAt W' W'.heap.size a1 len1) := fun W' hb => hc1.below hb hb.size
  clear hc1
  replace hL := hid hL
  go_enter Tryz.func4, Tryz.ntmps4
  go_wp2_with fail
  refine (cpudrawn_any _ _ _ _ hc0 (by omega)).mono ?_
  rintro e v1 ⟨c, rfl, hokc, hb1⟩
  obtain ⟨hce, hco⟩ := okC_cp hokc
  have hei : c.cp.ei = true → c.cp.iff = true := by
    have := (okC_parts hokc).2.2.2.2.2
    exact this
  clear hc0
  rw [hce]
  clear hce hokc
  generalize c.cp = d0 at *
  obtain ⟨d, hd⟩ : ∃ d : Cp, d = { d0 with halt := false, pc := 128, sp := 252 } := ⟨_, rfl⟩
  have S1 := ((StF.nil w).below hb1).box (cpA d) 25
  have dok : Hid (d.ok) := by
    rw [hd]
    obtain ⟨o0, o1, o2, o3, o4, o5, o6, o7, o8, o9⟩ := hco
    exact ⟨o0, o1, o2, o3, o4, o5, o6, o7, by show 252 < 256; omega, by show 128 < 256; omega⟩
  have dei : Hid (d.ei = true → d.iff = true) := by rw [hd]; exact hei
  have dst : Hid (d.halt = false ∧ d.pc = 128 ∧ d.sp = 252) := by rw [hd]; exact ⟨rfl, rfl, rfl⟩
  go_upto_region 7 with fail
  obtain ⟨b5, hb5⟩ : ∃ b5, v1.heap.size = b5 := ⟨_, rfl⟩
  obtain ⟨W1, hW1⟩ : ∃ W1, v1.alloc (.cells #[.int .i64 (d0.b : Int), .int .i64 (d0.c : Int), .int .i64 (d0.d : Int), .int .i64 (d0.e : Int), .int .i64 (d0.h : Int), .int .i64 (d0.l : Int), .int .i64 0, .int .i64 (d0.a : Int), .int .i64 (d0.f : Int), .int .i64 252, .int .i64 128, .bool d0.iff, .bool d0.ei, .bool false] 25) = W1 := ⟨_, rfl⟩
  have hcA : cpA d = #[.int .i64 (d0.b : Int), .int .i64 (d0.c : Int), .int .i64 (d0.d : Int), .int .i64 (d0.e : Int), .int .i64 (d0.h : Int), .int .i64 (d0.l : Int), .int .i64 0, .int .i64 (d0.a : Int), .int .i64 (d0.f : Int), .int .i64 252, .int .i64 128, .bool d0.iff, .bool d0.ei, .bool false] := by rw [hd]; rfl
  rw [hW1, hb5]
  rw [hcA, hW1, hb5, ← hcA] at S1
  replace S1 := hid S1
  clear hb1 hcA hd hco hei hW1 hb5
  go_wp2_with fail
  refine (memdrawn_any _ _ _ _ (hC.out _ S1.out.bel) (by omega)).mono ?_
  rintro e v2 ⟨u, M, rfl, hok, hm, hb2⟩
  obtain ⟨e1, f1, e2, f2, rfl, _, _⟩ := hm.form
  obtain ⟨N, hN⟩ : ∃ N : Mem, N = { M with locked := false } := ⟨_, rfl⟩
  have S2 := (S1.out.below hb2).box #[.slice e1 N.rom.length f1, .slice e2 N.ram.length f2, .int .i64 N.page, .int .i64 N.screen, .bool N.locked] 30
  have hNok : okM N = true := by rw [hN]; exact ok_unlock hok
  have hM2 : MemR _ (memV (.slice e1 N.rom.length f1) (.slice e2 N.ram.length f2) N.page N.screen N.locked) N := (show MemR v2 (memV (.slice e1 N.rom.length f1) (.slice e2 N.ram.length f2) N.page N.screen N.locked) N by rw [hN]; exact hm.unlock).below ((Below.refl v2.heap.size v2).alloc (Nat.le_refl _) (.cells #[.slice e1 N.rom.length f1, .slice e2 N.ram.length f2, .int .i64 N.page, .int .i64 N.screen, .bool N.locked] 30))
  have hM20 : MemR v2 (memV (.slice e1 N.rom.length f1) (.slice e2 N.ram.length f2) N.page N.screen N.locked) N := by rw [hN]; exact hm.unlock
  have hv2 := hb2.size
  go_upto_region 9 with fail
  obtain ⟨b6, hb6⟩ : ∃ b6, v2.heap.size = b6 := ⟨_, rfl⟩
  obtain ⟨W2, hW2⟩ : ∃ W2, v2.alloc (.cells #[.slice e1 M.rom.length f1, .slice e2 M.ram.length f2, .int .i64 M.page, .int .i64 M.screen, .bool false] 30) = W2 := ⟨_, rfl⟩
  have hmA : (#[.slice e1 N.rom.length f1, .slice e2 N.ram.length f2, .int .i64 N.page, .int .i64 N.screen, .bool N.locked] : Array Value) = #[.slice e1 M.rom.length f1, .slice e2 M.ram.length f2, .int .i64 M.page, .int .i64 M.screen, .bool false] := by rw [hN]
  rw [hW2, hb6]
  rw [hmA, hW2, hb6, ← hmA] at S2
  replace S2 := hid S2
  have hx2 : Hid (∀ W', Exc b6 W2 W' → MemR W' (memV (.slice e1 N.rom.length f1) (.slice e2 N.ram.length f2) N.page N.screen N.locked) N) := fun W' hx => hM20.exc (w := W2) (by rw [← hW2]; exact (Below.refl _ _).alloc (Nat.le_refl _) _) (by omega) hx
  replace hNok := hid hNok
  clear hb2 hm hM2 hM20 S1 hmA hN hok hv2
  -- the register that is pushed
  have q3 := hid (Blk.new W2 #[.int .i64 0, .int .i64 1, .int .i64 2, .int .i64 3, .int .i64 5, .int .i64 7] 3)
  have hb3 := hid ((Below.refl W2.heap.size W2).alloc (Nat.le_refl _) (.cells #[.int .i64 0, .int .i64 1, .int .i64 2, .int .i64 3, .int .i64 5, .int .i64 7] 3))
  clear hW2 hb6
  go_wp2_with fail
  obtain ⟨g3, hg3⟩ : ∃ g, W2.heap.size = g := ⟨_, rfl⟩
  obtain ⟨W3, hW3⟩ : ∃ W, W2.alloc (.cells #[.int .i64 0, .int .i64 1, .int .i64 2, .int .i64 3, .int .i64 5, .int .i64 7] 3) = W := ⟨_, rfl⟩
  rw [hW3] at q3 hb3 ⊢
  rw [hg3] at q3 ⊢
  have S3 := hid (S2.out.below hb3.out)
  refine (at_val _ _ _ 0 6 _ _ (hC.out _ S3.out.bel) (by omega) (by omega) (by omega)).mono ?_
  rintro e v4 ⟨rfl, hb4⟩
  obtain ⟨j, ej, hj⟩ : ∃ n : Nat, atV W3 a1 len1 0 6 = (n : Int) ∧ n < 6 := by
    have := atV_bd (w := W3) (a := a1) (len := len1) (i := 0) (n := 6) (by omega)
    exact ⟨(atV W3 a1 len1 0 6).toNat, by omega, by omega⟩
  rw [ej]
  obtain ⟨r, hr, hrx⟩ := six_at j hj
  have x4 := (q3.out.below hb4 q3.out.lt).cell j
  rw [hrx] at x4
  have S4 := (S3.out.below hb4).box (prA r) 49
  have hx4 : Hid (∀ W', Exc b6 (v4.alloc (.cells (prA r) 49)) W' → MemR W' (memV (.slice e1 N.rom.length f1) (.slice e2 N.ram.length f2) N.page N.screen N.locked) N) := fun W' hx => hx2.out W' ⟨Nat.le_trans (new_trans hb3.out hb4).size (Nat.le_trans (by simp) hx.1), fun k hk hn => (hx.2 k (by rw [World.size_alloc]; have := (new_trans hb3.out hb4).size; omega) hn).trans ((Below.heap_alloc _ _ _ (by have := (new_trans hb3.out hb4).size; omega)).trans ((new_trans hb3.out hb4).block k hk))⟩
  clear ej hb4 S2 S3 q3 hb3 hC hx2 hrx hg3 hW3
  replace S4 := hid S4
  replace hr := hid hr
  go_upto_region 11 with fail
  obtain ⟨gp, hgp⟩ : ∃ g, v4.heap.size = g := ⟨_, rfl⟩
  obtain ⟨W4, hW4⟩ : ∃ W, v4.alloc (.cells (prA r) 49) = W := ⟨_, rfl⟩
  rw [hW4, hgp] at S4
  rw [hW4] at hx4
  rw [hW4, hgp]
  clear hW4 hgp x4
  obtain ⟨L, hLe⟩ : ∃ L, L = [tBox gp (prA r), tBox b5 (cpA d)] := ⟨_, rfl⟩
  have i0 : Hid (L[0]? = some (tBox gp (prA r))) := by rw [hLe]; rfl
  have i1 : Hid (L[1]? = some (tBox b5 (cpA d))) := by rw [hLe]; rfl
  replace S4 := hid S4.out.swap
  rw [← hLe] at S4
  clear hLe
  go_wp2
  go_loopw [9, 10] (fun kk ii wr => ∃ (i : Nat) (T : Mem) (r1 r2 : Option Addr) (q1 q2 : Nat), i ≤ 3 ∧ ii = .int .i64 i ∧ kk = .int .i64 (atC i : Nat) ∧ Hid (memC N r i = T) ∧ Hid (okM T = true) ∧ StF w wr (tBox b6 #[.slice r1 T.rom.length q1, .slice r2 T.ram.length q2, .int .i64 T.page, .int .i64 T.screen, .bool T.locked] :: L) ∧ Hid (∀ W', Exc b6 wr W' → MemR W' (memV (.slice r1 T.rom.length q1) (.slice r2 T.ram.length q2) T.page T.screen T.locked) T)) (fun _ i _ => 3 - (intOf i).toNat)
  case atStart => exact ⟨0, N, e1, e2, f1, f2, by omega, rfl, rfl, rfl, hNok, S4.out, hx4⟩
  case round =>
    obtain ⟨i, T, r1, r2, q1, q2, hi, rfl, rfl, hTr, hTo, hSt, hTm⟩ := hrel
    clear S4 hx4
    by_cases hlt : i < 3
    · have hS := hid hSt
      have hq := (hSt.at 1 i0.out : Blk wr gp (prA r)).cell
      obtain ⟨p0, p1, p2, p3, p4⟩ := prA_at r i hlt
      have y0 := hq (i * 5)
      have y1 := hq (i * 5 + 1)
      have y2 := hq (i * 5 + 2)
      have y3 := hq (i * 5 + 3)
      have y4 := hq (i * 5 + 4)
      rw [p0] at y0
      rw [p1] at y1
      rw [p2] at y2
      rw [p3] at y3
      rw [p4] at y4
      obtain ⟨c1, c2⟩ := encC r i hr.out hlt
      obtain ⟨z1, z2, z3⟩ := bytC_len r i hlt
      have hbd := hid (fun h hh => bytC_bd r i h hr.out hlt hh)
      have hK := hL.out.2.1.below hSt.bel
      have hE := hid (enc_impl (opC i : Nat) (aC r i : Nat) 0 (nC i : Nat) (lC i : Nat) wr hK)
      rw [c1, c2] at hE
      have hnx : Hid (memC N r (i + 1) = poked T (atC i) (bytC r i)) := by
        show poked (memC N r i) (atC i) (bytC r i) = _
        rw [hTr.out]
      have hat := atC_bd i
      generalize hZ : bytC r i = zs at *
      generalize opC i = oc at *
      generalize aC r i = ac at *
      generalize nC i = nc at *
      generalize lC i = lc at *
      generalize hA : atC i = K at *
      generalize hA1 : atC (i + 1) = K1 at *
      generalize hM1 : memC N r (i + 1) = T1 at *
      replace z3 := hid z3
      replace hA := hid hA
      replace hA1 := hid hA1
      replace hM1 := hid hM1
      clear hSt hq p0 p1 p2 p3 p4 c1 c2 hZ hK hTr
      go_wp2_with fail
      refine hE.out.mono ?_
      rintro e v5 ⟨u5, rfl, hrow, hb5⟩
      obtain ⟨g, cap, cs, hg, rfl, hqg, hcs⟩ := row_open hrow z2
      have S5 := hid ((hS.out.new hb5 hqg hg).swap)
      have hT5 : Hid (∀ W', Exc b6 v5 W' → MemR W' (memV (.slice r1 T.rom.length q1) (.slice r2 T.ram.length q2) T.page T.screen T.locked) T) := fun W' hx => hTm.out W' ⟨Nat.le_trans hb5.size hx.1, fun k hk hn => (hx.2 k (Nat.lt_of_lt_of_le hk hb5.size) hn).trans (hb5.block k hk)⟩
      replace hcs := hid hcs
      clear hrow hb5 hqg hg hE y0 y1 y2 y3 y4 hS hTm
      go_wp2
      go_loopw [9, 13] (fun kk hh wr => ∃ (h : Nat) (U : Mem) (s1 s2 : Option Addr) (t1 t2 : Nat), h ≤ zs.length ∧ hh = .int .i64 h ∧ kk = .int .i64 ((K + h : Nat) : Int) ∧ Hid (poked T K (zs.take h) = U) ∧ Hid (okM U = true) ∧ StF w wr (tBox b6 #[.slice s1 U.rom.length t1, .slice s2 U.ram.length t2, .int .i64 U.page, .int .i64 U.screen, .bool U.locked] :: tBox g cs :: L) ∧ Hid (∀ W', Exc b6 wr W' → MemR W' (memV (.slice s1 U.rom.length t1) (.slice s2 U.ram.length t2) U.page U.screen U.locked) U)) (fun _ h _ => zs.length - (intOf h).toNat)
      case atStart => exact ⟨0, T, r1, r2, q1, q2, by omega, rfl, rfl, rfl, hTo, S5.out, hT5⟩
      case round =>
        obtain ⟨h, U, s1, s2, t1, t2, hh, rfl, rfl, hUr, hUo, hSt, hUm⟩ := hrel
        clear S5 hT5
        by_cases hlt2 : h < zs.length
        · have hS := hid hSt
          have yz := (hSt.at 1 rfl : Blk wr g cs).cell h
          rw [hcs.out h hlt2] at yz
          have hgl := (hSt.at 1 rfl : Blk wr g cs).lt
          obtain ⟨bz0, bz1⟩ := hbd.out h hlt2
          have hsn : Hid (poked T K (zs.take (h + 1)) = pokeM U ((K + h : Nat) : Int) (zs.getD h 0)) := by
            have e1 : zs.take (h + 1) = zs.take h ++ [zs.getD h 0] := by
              rw [List.take_succ_eq_append_getElem hlt2]
              simp [List.getD_eq_getElem?_getD, List.getElem?_eq_getElem hlt2]
            have e2 : (zs.take h).length = h := by rw [List.length_take]; omega
            unfold Hid
            rw [e1, poked_snoc, e2, hUr.out]
          have hpC : pokeC U ((K + h : Nat) : Int) (zs.getD h 0) = 0 := by
            unfold pokeC
            rw [ask_ok hUo.out (by omega) (by omega), if_pos rfl, in_yes bz0 bz1, if_pos rfl]
          have hpR : pokeR U ((K + h : Nat) : Int) (zs.getD h 0) = pokeM U ((K + h : Nat) : Int) (zs.getD h 0) := by
            unfold pokeR
            rw [hpC, if_pos rfl]
          have hokP : Hid (okM (pokeM U ((K + h : Nat) : Int) (zs.getD h 0)) = true) := poke_ok hUo.out (in_yes bz0 bz1)
          have hUf := ok_fit hUo.out
          have hpo : Hid (∀ W', Below wr.heap.size wr W' → Calls Tryz.prog 16 #[memV (.slice s1 U.rom.length t1) (.slice s2 U.ram.length t2) U.page U.screen U.locked, .int .i64 ((K + h : Nat) : Int), .int .i64 (zs.getD h 0)] W' fun e w' => ∃ u, e = .returned (.tuple #[u, .int .i64 0]) ∧ MemO w' W'.heap.size w'.heap.size u (pokeM U ((K + h : Nat) : Int) (zs.getD h 0)) ∧ Below W'.heap.size W' w') := fun W' hb => by
            have q := poke_impl _ U ((K + h : Nat) : Int) (zs.getD h 0) W' (hUm.out W' ⟨hb.size, fun j hj _ => hb.block j hj⟩) hUf
            rw [hpC, hpR] at q
            exact q
          obtain ⟨T', hT'⟩ : ∃ T', pokeM U ((K + h : Nat) : Int) (zs.getD h 0) = T' := ⟨_, rfl⟩
          rw [hT'] at hsn hokP hpo
          obtain ⟨kh, hkh⟩ : ∃ kh : Nat, K + h = kh := ⟨_, rfl⟩
          obtain ⟨zz, hzz0⟩ : ∃ zz, zs.getD h 0 = zz := ⟨_, rfl⟩
          rw [hkh, hzz0] at hpo
          rw [hzz0] at yz
          rw [hkh]
          have hSS : Hid (∀ W', Below wr.heap.size wr W' → (∀ i, W'.cell? ⟨b6, i, none⟩ = (#[.slice s1 U.rom.length t1, .slice s2 U.ram.length t2, .int .i64 U.page, .int .i64 U.screen, .bool U.locked] : Array Value)[i]?) ∧ W'.cell? ⟨g, h, none⟩ = some (.int .i64 zz)) := fun W' hb => ⟨((hS.out.below hb).at 0 rfl).cell, by rw [hb.cell (p := ⟨g, h, none⟩) hgl]; exact yz⟩
          have hkb : kh ≤ 400 := by omega
          replace hkh := hid hkh
          clear hpC hpR hT' hUm hSt hUr hzz0 bz0 bz1
          go_upto_region 21 with fail
          clear yz
          have hD : Hid (Below wr.heap.size wr wr.drew) := (Below.refl _ _).drew
          have hX9 : Hid (Below wr.heap.size wr (wr.alloc (.cells zM 30)).drew) := ((Below.refl _ _).alloc (Nat.le_refl _) _).drew
          have hXq : Hid (Blk (wr.alloc (.cells zM 30)).drew wr.heap.size zM) := Blk.new wr zM _
          go_cut [14, 15] (fun aa bb wx => ∃ b26 lo hi vr vm, aa = .pointer (some ⟨b26, 0, none⟩) ∧ bb = .int .i64 0 ∧ Hid (Laid wr wx b6 b26 lo hi vr vm T'))
          case first =>
            go_region_held3 (fun w' => (∀ i, w'.cell? ⟨b6, i, none⟩ = (#[.slice s1 U.rom.length t1, .slice s2 U.ram.length t2, .int .i64 U.page, .int .i64 U.screen, .bool U.locked] : Array Value)[i]?) ∧ w'.cell? ⟨g, h, none⟩ = some (.int .i64 zz)) (first | exact hSS.out _ hD.out | exact hSS.out _ hX9.out | exact hSS.out _ hB9.out | exact hSS.out _ hLd.out.bel | exact hSS.out _ (hB9.out.alloc hB9.out.size _) | exact hSS.out _ hLe.out.bel) ((go_at_call 16; first | (refine (hpo.out _ hD.out).mono ?_; rintro e v9 ⟨u9, rfl, hm9, hb9⟩; obtain ⟨z1, a9, z2, c9, rfl, _, _⟩ := hm9.reads.form; have hB9 := hid (new_trans hD.out hb9); have hLe := hid (Laid.last (b22 := b6) 30 hD.out hm9 hb9); clear hm9 hb9) | (refine (hpo.out _ hX9.out).mono ?_; rintro e v9 ⟨u9, rfl, hm9, hb9⟩; obtain ⟨z1, a9, z2, c9, rfl, _, _⟩ := hm9.reads.form; have hB9 := hid (new_trans hX9.out hb9); have hLd := hid (Laid.first (b22 := b6) hX9.out hXq.out hm9 hb9); have q9 := hXq.out.below hb9 hXq.out.lt; have y9 := q9.cell; have f9 := q9.frozen; have k9 := q9.lt; clear q9 hm9 hb9)))
            all_goals go_wp2_with fail
            all_goals go_meet
            all_goals first
              | exact ⟨_, _, _, _, _, rfl, rfl, hLe⟩
              | exact ⟨_, _, _, _, _, rfl, rfl, hLd⟩
          case rest =>
          obtain ⟨b26, lo, hi, vr, vm, rfl, rfl, hLa⟩ := hcut
          obtain ⟨m1, a9, m2, c9, hzz, _, _⟩ := hLa.out.mem.reads.form
          have S9 := hS.out.below hLa.out.bel
          have hx := hLa.out
          simp only [memV, Value.agg.injEq, Array.mk.injEq, List.cons.injEq, and_true] at hzz
          obtain ⟨rfl, rfl⟩ := hzz
          have x26 := hx.blk.cell
          have x22 := (S9.at 0 rfl).cell
          have f22 := (S9.at 0 rfl : Blk wc b6 _).frozen
          have l22 := (S9.at 0 rfl : Blk wc b6 _).lt
          have l22r := (hS.out.at 0 rfl : Blk wr b6 _).lt
          have S10 := hid (S9.reset (meL (.slice m1 T'.rom.length a9) (.slice m2 T'.ram.length c9) T') (setsM2 _ _ _ _ _ _ _ _))
          have hM10 : Hid (∀ W', Exc b6 (sets wc b6 0 (meL (.slice m1 T'.rom.length a9) (.slice m2 T'.ram.length c9) T')) W' → MemR W' (memV (.slice m1 T'.rom.length a9) (.slice m2 T'.ram.length c9) T'.page T'.screen T'.locked) T') := fun W' hxx => (MemO.exc (b := b6) hx.mem hx.ord.2 (by have := hx.ord.1; omega) ((Exc.sets b6 wc 0 _).trans hxx)).reads
          replace hS := S10
          clear hx S9 hLa S10
          obtain ⟨WF, hWF⟩ : ∃ WF, sets wc b6 0 (meL (.slice m1 T'.rom.length a9) (.slice m2 T'.ram.length c9) T') = WF := ⟨_, rfl⟩
          rw [hWF] at hS hM10
          simp only [sets, Nat.zero_add, Nat.reduceAdd] at hWF
          replace hWF := hid hWF
          go_wp2
          (try rw [hWF.out])
          go_roundw
          case rel => exact ⟨h + 1, T', m1, m2, a9, c9, by omega, by go_num, by rw [show K + (h + 1) = kh + 1 by have := hkh.out; omega]; go_num, hsn, hokP, by (try rw [hWF.out]); exact hS.out, by (try rw [hWF.out]); exact hM10⟩
          case measure => simp [intOf]; omega
        · obtain rfl : h = zs.length := by omega
          have hS := hid hSt.drop2
          have hU1 : Hid (T1 = U) := by
            have := hUr.out
            rw [List.take_length] at this
            unfold Hid
            rw [← this]
            exact hnx.out
          have hKe : Hid (K1 = K + zs.length) := z3.out
          clear hSt hnx hUr
          go_wp2
          go_roundw
          case rel => exact ⟨i + 1, U, s1, s2, t1, t2, by omega, by go_num, by rw [hA1.out, hKe.out], hM1.out.trans hU1.out, hUo, hS.out, hUm⟩
          case measure => simp [intOf]; omega
    · obtain rfl : i = 3 := by omega
      obtain ⟨M1, M3, D1, D2, D3, D4, k0, k1, k3, ⟨o1, o2, o3⟩, ⟨n1, n2, n3⟩, s1, s2, s3, s4, c1, c2, c3, c4, c5, c6, c7, c8⟩ := four_plain d N r hr.out dok.out dst.out.1 dst.out.2.1 dst.out.2.2 hNok.out
      have hP : Hid (memP N r = pokeM T 140 119) := by
        show pokeM (memC N r 3) 140 119 = _
        rw [hTr.out]
      obtain ⟨rv, hrv⟩ : ∃ rv, d.reg r = rv := ⟨_, rfl⟩
      have hcr := cpA_at d r hr.out
      rw [hrv] at c6 hcr
      have c6' : (D4.l : Int) = (rv : Int) := by rw [c6]
      have c7' : (D4.f : Int) = (d.f : Int) := by rw [c7]
      replace s1 := hid s1
      replace s2 := hid s2
      replace s3 := hid s3
      replace s4 := hid s4
      replace o1 := hid o1
      replace o2 := hid o2
      replace o3 := hid o3
      replace n1 := hid n1
      replace n2 := hid n2
      replace n3 := hid n3
      replace c1 := hid c1
      replace c2 := hid c2
      replace c3 := hid c3
      replace c4 := hid c4
      replace c5 := hid c5
      replace c6' := hid c6'
      replace c7' := hid c7'
      replace c8 := hid c8
      replace hcr := hid hcr
      obtain ⟨P, hPe⟩ : ∃ P, memP N r = P := ⟨_, rfl⟩
      rw [hPe] at k0 s1 hP
      replace k0 := hid k0
      replace k1 := hid k1
      replace k3 := hid k3
      have hS := hid hSt
      have hE := hid (enc_impl 14 7 0 0 1 wr (hL.out.2.1.below hSt.bel))
      rw [encB.1, encB.2] at hE
      clear hSt hTr hPe c6 c7 hlt hi dst hrv hNok
      go_wp2_with fail
      refine hE.out.mono ?_
      rintro e v5 ⟨u5, rfl, hrow, hb5⟩
      obtain ⟨g, cap, cs, hg, rfl, hqg, hcs⟩ := row_open1 hrow
      have S5 := hid ((hS.out.new hb5 hqg hg).swap)
      have hT5 : Hid (∀ W', Exc b6 v5 W' → MemR W' (memV (.slice r1 T.rom.length q1) (.slice r2 T.ram.length q2) T.page T.screen T.locked) T) := fun W' hx => hTm.out W' ⟨Nat.le_trans hb5.size hx.1, fun k hk hn => (hx.2 k (Nat.lt_of_lt_of_le hk hb5.size) hn).trans (hb5.block k hk)⟩
      have yz := hqg.cell 0
      rw [hcs] at yz
      have x6 := (S5.out.at 0 rfl : Blk v5 b6 _).cell
      clear hrow hb5 hqg hg hE hS hTm hcs
      have hpC : pokeC T 140 119 = 0 := by
        unfold pokeC
        rw [ask_ok hTo.out (by omega) (by omega), if_pos rfl, in_yes (by omega) (by omega), if_pos rfl]
      have hpR : pokeR T 140 119 = P := by
        unfold pokeR
        rw [hpC, if_pos rfl, hP.out]
      have hUf := ok_fit hTo.out
      have hpo : Hid (∀ W', Below v5.heap.size v5 W' → Calls Tryz.prog 16 #[memV (.slice r1 T.rom.length q1) (.slice r2 T.ram.length q2) T.page T.screen T.locked, .int .i64 140, .int .i64 119] W' fun e w' => ∃ u, e = .returned (.tuple #[u, .int .i64 0]) ∧ MemO w' W'.heap.size w'.heap.size u P ∧ Below W'.heap.size W' w') := fun W' hb => by
        have q := poke_impl _ T 140 119 W' (hT5.out W' ⟨hb.size, fun j hj _ => hb.block j hj⟩) hUf
        rw [hpC, hpR] at q
        exact q
      have hD : Hid (Below v5.heap.size v5 v5.drew) := (Below.refl _ _).drew
      clear hpC hpR hUf hT5 hTo hP
      go_upto_region 29 with fail
      go_cut [18] (fun aa wx => aa = .int .i64 0 ∧ ∃ m1 a9 m2 c9, StF w wx (tBox b6 #[.slice m1 P.rom.length a9, .slice m2 P.ram.length c9, .int .i64 P.page, .int .i64 P.screen, .bool P.locked] :: L) ∧ MemR wx (memV (.slice m1 P.rom.length a9) (.slice m2 P.ram.length c9) P.page P.screen P.locked) P)
      case first =>
        go_region_with (go_at_call 16; refine (hpo.out _ hD.out).mono ?_; rintro e v6 ⟨u6, rfl, hm6, hb6⟩; obtain ⟨m1, a9, m2, c9, rfl, _, _⟩ := hm6.reads.form; have S6 := hid (S5.out.below (new_trans hD.out hb6)); have y6 := (S6.out.at 0 rfl : Blk v6 b6 _).cell; have f6 := (S6.out.at 0 rfl : Blk v6 b6 _).frozen; have l6 := (S6.out.at 0 rfl : Blk v6 b6 _).lt; have l5 := (S5.out.at 0 rfl : Blk v5 b6 _).lt; replace hm6 := hid hm6; clear hb6)
        all_goals
          have S7 := hid ((S6.out.reset (meL (.slice m1 P.rom.length a9) (.slice m2 P.ram.length c9) P) (setsM2 _ _ _ _ _ _ _ _)).drop2)
          have hM7 := hid ((MemO.exc (b := b6) hm6.out (Nat.le_refl _) l5 (Exc.sets b6 v6 0 (meL (.slice m1 P.rom.length a9) (.slice m2 P.ram.length c9) P))).reads)
        all_goals go_wp2_with fail
        all_goals go_meet
        all_goals exact ⟨rfl, m1, a9, m2, c9, S7.out, hM7.out⟩
      case rest =>
      obtain ⟨rfl, m1, a9, m2, c9, hS7, hM7⟩ := hcut
      have S7 := hid hS7
      replace hM7 := hid hM7
      clear S5 hpo hD x6 yz hS7
      obtain ⟨W7, hW7⟩ : ∃ W, wc = W := ⟨_, rfl⟩
      rw [hW7] at S7 hM7 ⊢
      clear hW7
      go_upto_region 30 with fail
      have x0 := (S7.out.at 2 i1.out : Blk W7 b5 (cpA d)).cell
      have x1 := (S7.out.at 0 rfl : Blk W7 b6 _).cell
      have hK1 := hid (stp_to d D1 _ P M1 W7 dok.out dei.out hM7.out k0.out (flags_below hL.out.1 S7.out.bel) (hL.out.2.2.below S7.out.bel) (hL.out.2.1.below S7.out.bel) s1.out)
      clear hM7
      go_wp2_with fail
      refine hK1.out.mono ?_
      rintro e v8 ⟨u8, cv8, cy8, rfl, hA8⟩
      obtain ⟨g1, j1, g2, j2, rfl⟩ := hA8.form
      obtain ⟨lo8, hi8, S8⟩ := hA8.stf S7.out
      have T8 := (S8.tail.box (cpA D1) 25).box #[.slice g1 M1.rom.length j1, .slice g2 M1.ram.length j2, .int .i64 M1.page, .int .i64 M1.screen, .bool M1.locked] 30
      rw [World.size_alloc] at T8
      obtain ⟨b19, hb19⟩ : ∃ b, v8.heap.size = b := ⟨_, rfl⟩
      obtain ⟨W8, hW8⟩ : ∃ b, (v8.alloc (.cells (cpA D1) 25)).alloc (.cells #[.slice g1 M1.rom.length j1, .slice g2 M1.ram.length j2, .int .i64 M1.page, .int .i64 M1.screen, .bool M1.locked] 30) = b := ⟨_, rfl⟩
      rw [hW8, hb19] at T8
      replace T8 := hid T8
      clear hA8 S8 x0 x1 S7 hK1
      go_upto_region 31 with fail
      (try rw [hW8])
      (try rw [hb19])
      clear hW8 hb19
      have x0 := (T8.out.at 1 rfl : Blk W8 b19 (cpA D1)).cell
      have x1 := (T8.out.at 0 rfl : Blk W8 (b19 + 1) _).cell
      have hK2 := hid (stp_to D1 D2 _ M1 M1 W8 o1.out (by rw [n1.out]; intro h; cases h) (MemO.reads (T8.out.at 2 rfl)) k1.out (flags_below hL.out.1 T8.out.bel) (hL.out.2.2.below T8.out.bel) (hL.out.2.1.below T8.out.bel) s2.out)
      go_wp2_with fail
      refine hK2.out.mono ?_
      rintro e v9 ⟨u9, cv9, cy9, rfl, hA9⟩
      obtain ⟨h1', k1', h2', k2', rfl⟩ := hA9.form
      obtain ⟨lo9, hi9, S9⟩ := hA9.stf T8.out
      have S9b := S9.tail.box (cpA D2) 25
      have T9 := StF.resetAt [tBox v9.heap.size (cpA D2), tMem lo9 hi9 _ M1] S9b (meL (.slice h1' M1.rom.length k1') (.slice h2' M1.ram.length k2') M1) (setsM2 _ _ _ _ _ _ _ _)
      obtain ⟨b23, hb23⟩ : ∃ b, v9.heap.size = b := ⟨_, rfl⟩
      obtain ⟨V9, hV9⟩ : ∃ V, v9.alloc (.cells (cpA D2) 25) = V := ⟨_, rfl⟩
      rw [hV9, hb23] at S9b T9
      have y9 := (S9b.at 2 rfl : Blk V9 (b19 + 1) _).cell
      have f9 := (S9b.at 2 rfl : Blk V9 (b19 + 1) _).frozen
      have l9 := (S9b.at 2 rfl : Blk V9 (b19 + 1) _).lt
      obtain ⟨W9, hW9⟩ : ∃ W, sets V9 (b19 + 1) 0 (meL (.slice h1' M1.rom.length k1') (.slice h2' M1.ram.length k2') M1) = W := ⟨_, rfl⟩
      rw [hW9] at T9
      simp only [sets, Nat.zero_add, Nat.reduceAdd] at hW9
      replace T9 := hid T9
      clear hA9 S9 S9b x0 x1 T8 hK2
      go_upto_region 32 with fail
      (try rw [hW9])
      clear hW9 hV9 hb23 y9 f9 l9
      have x0 := (T9.out.at 0 rfl : Blk W9 b23 (cpA D2)).cell
      have x1 := (T9.out.at 2 rfl : Blk W9 (b19 + 1) _).cell
      have hK3 := hid (stp_to D2 D3 _ M1 M3 W9 o2.out (by rw [n2.out]; intro h; cases h) (MemO.reads (T9.out.at 1 rfl)) k1.out (flags_below hL.out.1 T9.out.bel) (hL.out.2.2.below T9.out.bel) (hL.out.2.1.below T9.out.bel) s3.out)
      go_wp2_with fail
      refine hK3.out.mono ?_
      rintro e v10 ⟨u10, cv10, cy10, rfl, hA10⟩
      obtain ⟨x1', z1', x2', z2', rfl⟩ := hA10.form
      obtain ⟨lo10, hi10, S10⟩ := hA10.stf T9.out
      have S10b := S10.tail.box (cpA D3) 25
      have T10 := StF.resetAt [tBox v10.heap.size (cpA D3), tMem lo10 hi10 _ M3, tBox b23 (cpA D2), tMem lo9 hi9 _ M1] S10b (meL (.slice x1' M3.rom.length z1') (.slice x2' M3.ram.length z2') M3) (setsM2 _ _ _ _ _ _ _ _)
      obtain ⟨b26, hb26⟩ : ∃ b, v10.heap.size = b := ⟨_, rfl⟩
      obtain ⟨V10, hV10⟩ : ∃ V, v10.alloc (.cells (cpA D3) 25) = V := ⟨_, rfl⟩
      rw [hV10, hb26] at S10b T10
      have y9 := (S10b.at 4 rfl : Blk V10 (b19 + 1) _).cell
      have f9 := (S10b.at 4 rfl : Blk V10 (b19 + 1) _).frozen
      have l9 := (S10b.at 4 rfl : Blk V10 (b19 + 1) _).lt
      obtain ⟨W10, hW10⟩ : ∃ W, sets V10 (b19 + 1) 0 (meL (.slice x1' M3.rom.length z1') (.slice x2' M3.ram.length z2') M3) = W := ⟨_, rfl⟩
      rw [hW10] at T10
      simp only [sets, Nat.zero_add, Nat.reduceAdd] at hW10
      replace T10 := hid T10
      clear hA10 S10 S10b x0 x1 T9 hK3
      go_upto_region 33 with fail
      (try rw [hW10])
      clear hW10 hV10 hb26 y9 f9 l9
      have x0 := (T10.out.at 0 rfl : Blk W10 b26 (cpA D3)).cell
      have x1 := (T10.out.at 4 rfl : Blk W10 (b19 + 1) _).cell
      have hK4 := hid (stp_to D3 D4 _ M3 M3 W10 o3.out (by rw [n3.out]; intro h; cases h) (MemO.reads (T10.out.at 1 rfl)) k3.out (flags_below hL.out.1 T10.out.bel) (hL.out.2.2.below T10.out.bel) (hL.out.2.1.below T10.out.bel) s4.out)
      go_wp2_with fail
      refine hK4.out.mono ?_
      rintro e v11 ⟨u11, cv11, cy11, rfl, hA11⟩
      obtain ⟨h3', k3', h4', k4', rfl⟩ := hA11.form
      obtain ⟨lo11, hi11, S11⟩ := hA11.stf T10.out
      have T11 := (S11.tail.box (cpA D4) 25).box #[.slice h3' M3.rom.length k3', .slice h4' M3.ram.length k4', .int .i64 M3.page, .int .i64 M3.screen, .bool M3.locked] 30
      rw [World.size_alloc] at T11
      obtain ⟨b29, hb29⟩ : ∃ b, v11.heap.size = b := ⟨_, rfl⟩
      obtain ⟨W11, hW11⟩ : ∃ b, (v11.alloc (.cells (cpA D4) 25)).alloc (.cells #[.slice h3' M3.rom.length k3', .slice h4' M3.ram.length k4', .int .i64 M3.page, .int .i64 M3.screen, .bool M3.locked] 30) = b := ⟨_, rfl⟩
      rw [hW11, hb29] at T11
      have xD4 := (T11.at 1 rfl : Blk W11 b29 (cpA D4)).cell
      have xD2 := (T11.at 5 rfl : Blk W11 b23 (cpA D2)).cell
      have xD1 := (T11.at 8 rfl : Blk W11 b19 (cpA D1)).cell
      have hq5 := (T11.at 12 i1.out : Blk W11 b5 (cpA d)).cell
      have xr := hq5 r
      rw [hcr.out] at xr
      have xf := hq5 8
      have xf2 : W11.cell? ⟨b5, 8, none⟩ = some (.int .i64 (d.f : Int)) := xf
      have hr8 : r < 8 := by rcases hr.out with rfl | rfl | rfl | rfl | rfl | rfl <;> decide
      have a1' : W11.cell? ⟨b19, 9, none⟩ = some (.int .i64 251) := by rw [xD1 9, ← c2.out]; rfl
      have a2' : W11.cell? ⟨b19, 10, none⟩ = some (.int .i64 140) := by rw [xD1 10, ← c1.out]; rfl
      have a3' : W11.cell? ⟨b23, 9, none⟩ = some (.int .i64 252) := by rw [xD2 9, ← c4.out]; rfl
      have a4' : W11.cell? ⟨b23, 10, none⟩ = some (.int .i64 130) := by rw [xD2 10, ← c3.out]; rfl
      have a5' : W11.cell? ⟨b29, 9, none⟩ = some (.int .i64 252) := by rw [xD4 9, ← c5.out]; rfl
      have a6' : W11.cell? ⟨b29, 10, none⟩ = some (.int .i64 132) := by rw [xD4 10, ← c8.out]; rfl
      have a7' : W11.cell? ⟨b29, 5, none⟩ = some (.int .i64 (rv : Int)) := by rw [xD4 5, ← c6'.out]; rfl
      have a8' : W11.cell? ⟨b29, 8, none⟩ = some (.int .i64 (d.f : Int)) := by rw [xD4 8, ← c7'.out]; rfl
      have hcmp := hid (And.intro a1' (And.intro a2' (And.intro a3' (And.intro a4' (And.intro a5' (And.intro a6' (And.intro a7' (And.intro a8' (And.intro xr xf2)))))))))
      replace T11 := hid T11
      clear hA11 S11 x0 x1 T10 hK4 hq5 xf a1' a2' a3' a4' a5' a6' a7' a8' xr xf2 xD4 xD2 xD1
      go_upto_region 34 with fail
      (try rw [hW11])
      (try rw [hb29])
      clear hW11 hb29
      refine calls_cmp _ _ _ _ _ _ _ _ _ _ _ _ _ _ _ _ _ _ _ _ _ _ _ _ _ _ _ _ _ _ _ _ _ _ _ _ _ _ _ _ _ _ _ _ _ _ _ _ _ _ _ _ _ _ _ _ _ _ _ _ _ _ _ _ _ _ _ _ _ _ _ _ _ _ _ _ _ _ _ _ _ _ _ _ _ _ _ _ _ _ _ _ _ _ _ _ _ _ _ _ _ _ _ _ _ _ _ _ _ _ _ _ _ _ _ _ _ _ _ _ _ _ _ _ _ _ _ _ _ _ _ _ _ _ _ _ _ _ _ _ _ _ _ _ _ _ _ _ _ _ _ _ _ _ _ _ _ _ _ _ _ _ _ _ _ _ _ _ _ _ _ _ _ _ _ _ _ _ _ _ _ _ _ _ _ _ _ _ _ _ _ _ _ _ _ _ _ _ _ _ _ _ _ _ r rv d.f b5 b19 b23 b29 _ _ hr8 hcmp.out ?_
      intro y148 y149 y150 y151 y152 y153 y154 y155 y156 y157 y158 y159 y160 y161 y162 y163 y164 y165 y166 y167 y168 y169 y170 y171 y172 y173 y174 y175 y176 y177 y178 y179 y180 y181 y182 y183 y184 y185 y186 y187 y188 y189 y190 y191 y192 y193 y194 y195 y196 y197 y198 y199 y200 y201 y202 y203 y204 y205 y206 y207 y208 y209 y210 y211 y212 wd hb
      have hend := hid (new_trans T11.out.bel hb)
      clear hb hcmp
      go_wp2
      go_ret
      exact ⟨rfl, hend.out⟩

theorem door_met (os : Os) (args : Array Value) : laidMetH Tryz.prog Rows.fnCallsRow.laid ((World.doorLaid Tryz.prog 400 os).forCall (fun _ _ => 0) ⟨#[], args, []⟩).memory :=
  laidMetH_of_parts3 (fuel := 8) (laidMet_of_run' 8 (by kernel_rfl) (by kernel_rfl)) (by kernel_rfl) (by kernel_rfl)

set_option maxRecDepth 100000 in
theorem lifted (os : Os) (started : os.Started) (H : Type) (enc : TypeId × Value → H) :
    ReturnsInHanded {} Tryz.checked os 4 .any (fun w args => (Rows.fnCallsSpec.pre enc Tryz.prog Tryz.f4 [] false w args ∧ laidMetH Tryz.prog Rows.fnCallsRow.laid w) ∧ sizedMet enc Tryz.prog Tryz.f4 (OpenSpec.ofChange Rows.fnCallsSpec) false w args)
      (Rows.fnCallsSpec.post enc Tryz.prog Tryz.f4 false true false false) := by
  refine returnsInHanded_of_change_and (C := Tryz.checked) (X := fun w _ => laidMetH Tryz.prog Rows.fnCallsRow.laid w) (fun _ _ _ hh h => h.of_heap hh) own started (by kernel_rfl) Tryz.func4
    (ChangeSpec.witness_shaped (enc := enc) (C := Tryz.checked) (os := os) (X := fun w _ => laidMetH Tryz.prog Rows.fnCallsRow.laid w) false (World.doorLaid Tryz.prog 400 os) #[.slice none 0 0, .slice none 0 0] 8 rfl (World.shaped_of_RefB (by kernel_rfl) (by kernel_rfl)) (by kernel_rfl) (by kernel_rfl) (by kernel_rfl) (door_met os _)) ?_
  intro W base args ds gs before hval0 hW _ _ hL _
  have hval : ∀ (j : Nat) t v, Tryz.f4.params[j]? = some t → args[j]? = some v → Value.okWide Tryz.prog W .any base t v := hval0
  have hW' := hW
  obtain ⟨p, q, hA0, hV, hbefore, hfz, hnd⟩ := hW
  have hA : DataW.TrodAll enc Tryz.prog W 0 (fun _ => true) true Tryz.f4.params.toList args.toList ds p := hA0
  rw [Tryz.params4] at hA hval
  obtain ⟨v0, vs0, d0, ds0, p0, q0, hargs, rfl, rfl, h0, r0⟩ := trodAll_cons hA
  obtain ⟨v1, vs1, d1, ds1, p1, q1, rfl, rfl, rfl, h1, r1⟩ := trodAll_cons r0
  obtain ⟨rfl, rfl, rfl⟩ := trodAll_nil r1
  obtain rfl : args = #[v0, v1] := by cases args; simp_all
  obtain ⟨g0, g1, g2, rfl⟩ := vars3_form hV
  obtain ⟨a0, len0, cap0, rfl⟩ := okWide_slice Tryz.underlying22 (hval 0 22 v0 rfl rfl)
  have k0 := h0
  have lt0 : ∀ x ∈ p0, x.block < W.heap.size := by obtain ⟨m, hm⟩ := k0; exact DataW.trod_lt m _ _ _ hm
  obtain ⟨z0, w0⟩ : ∃ zs, IsRow .u8 W a0 len0 cap0 zs := by
    obtain ⟨fuel, hf⟩ := h0
    rcases open_ints Tryz.underlying22 Tryz.underlying5 (by kernel_rfl) hf with ⟨hcs, _⟩ | ⟨x, l, c, zs, hcs, _, hl, hm, hz, _, hcell, hwz⟩
    · simp [Value.cells] at hcs
      obtain ⟨rfl, rfl, rfl⟩ := hcs
      exact ⟨[], .inl ⟨rfl, rfl, rfl, rfl⟩⟩
    · simp [Value.cells] at hcs
      obtain ⟨rfl, rfl, rfl⟩ := hcs
      exact ⟨zs, .inr ⟨_, rfl, hl, hm, by simpa using hz, hcell, hwz⟩⟩
  obtain ⟨a1, len1, cap1, rfl⟩ := okWide_slice Tryz.underlying22 (hval 1 22 v1 rfl rfl)
  have k1 := h1
  have lt1 : ∀ x ∈ p1, x.block < W.heap.size := by obtain ⟨m, hm⟩ := k1; exact DataW.trod_lt m _ _ _ hm
  obtain ⟨z1, w1⟩ : ∃ zs, IsRow .u8 W a1 len1 cap1 zs := by
    obtain ⟨fuel, hf⟩ := h1
    rcases open_ints Tryz.underlying22 Tryz.underlying5 (by kernel_rfl) hf with ⟨hcs, _⟩ | ⟨x, l, c, zs, hcs, _, hl, hm, hz, _, hcell, hwz⟩
    · simp [Value.cells] at hcs
      obtain ⟨rfl, rfl, rfl⟩ := hcs
      exact ⟨[], .inl ⟨rfl, rfl, rfl, rfl⟩⟩
    · simp [Value.cells] at hcs
      obtain ⟨rfl, rfl, rfl⟩ := hcs
      exact ⟨zs, .inr ⟨_, rfl, hl, hm, by simpa using hz, hcell, hwz⟩⟩
  clear hA0 hval0
  refine (walk a0 len0 cap0 z0 a1 len1 cap1 z1 W w0 w1 (step3_of hL)).mono fun e W' ⟨he, bel⟩ => ?_
  subst he
  exact ⟨_, rfl, _, _, _, [], _, _, hW', trodAll_mk1 (shut_bool Tryz.underlying4 _), (trodAll_cons_mk (Below.trod laidOut (by kernel_rfl) (of_decide_eq_true (by kernel_rfl)) k0 bel lt0) (trodAll_cons_mk (Below.trod laidOut (by kernel_rfl) (of_decide_eq_true (by kernel_rfl)) k1 bel lt1) trodAll_mk0)), Below.trodVars laidOut bel (by kernel_rfl) hV, bel.frame _, fun h => by cases h⟩

theorem said : Rows.FnCallsSaid :=
  OpenClaim.holds_of_wide 4 Tryz.f4 rfl rfl rfl rfl rfl rfl rfl ⟨rfl, rfl, rfl, rfl, rfl⟩ rfl rfl rfl rfl rfl (by kernel_rfl) Tryz.func4 (by kernel_rfl)
    (of_decide_eq_true (by kernel_rfl)) (by unfold Func.isWrapper; first | (rw [if_pos (by decide +kernel)]; kernel_rfl) | (rw [if_neg (by decide +kernel)]; exact ⟨rfl, rfl⟩))
    (fun os started H enc _ => lifted os started H enc)

theorem card : Rows.FnCallsCardSaid :=
  Claim7.holds_tied_plain_at .later [] _ _ _ _ said (fun _ h => by cases h) (by kernel_rfl) (fun _ h => by cases h) fnCalls_row_tie rfl ⟨rfl, rfl⟩ (by kernel_rfl) rfl
    (fun f fn hf hfn => by
      obtain rfl : f = 4 := Option.some.inj ((show Tryz.prog.funcNamed "loop.example/g00644/laws.FnCalls" = some 4 by kernel_rfl).symm.trans hf) |>.symm
      obtain rfl : fn = Tryz.f4 := (Option.some.inj (Tryz.func4.symm.trans hfn)).symm
      exact ⟨by kernel_rfl, fun j t ht => by
        rw [Tryz.params4] at ht
        have hm : t ∈ [22, 22] := by simpa using Array.mem_of_getElem? ht
        have hall : ([22, 22].all fun u => !Tryz.prog.wantsStandIn u) = true := by kernel_rfl
        exact (show Tryz.prog.wantsStandIn t = false by simpa using List.all_eq_true.1 hall t hm)⟩)
    (by kernel_rfl)
end Go.Proofs.YtdfadiicjkenfabGreatDoor.fnCalls
namespace Go.Proofs.YtdfadiicjkenfabGreatDoor
theorem fnCalls_holds : Rows.FnCallsCardSaid := fnCalls.card
#print axioms fnCalls_holds
end Go.Proofs.YtdfadiicjkenfabGreatDoor
