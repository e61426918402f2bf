/- For all bytes the law FnMemory returns true: what is written is read, by each address that shows it, and the ROM stays. -/
import Derived.Test.YtpdngjjbhcfplabRows
import Derived.Test.YtpdngjjbhcfplabBase
import Derived.Test.YtpdngjjbhcfplabIn
import Derived.Test.YtpdngjjbhcfplabBt
import Derived.Test.YtpdngjjbhcfplabSrc
import Derived.Test.YtpdngjjbhcfplabMa
import Derived.Test.YtpdngjjbhcfplabMb
import Derived.Test.YtpdngjjbhcfplabMc
import Derived.Test.YtpdngjjbhcfplabMd
import Derived.Test.YtpdngjjbhcfplabBl
import Derived.Test.YtpdngjjbhcfplabMe
import Derived.Test.YtpdngjjbhcfplabMf
import Derived.Test.YtpdngjjbhcfplabMg
import Derived.Test.YtpdngjjbhcfplabMh
import Derived.Test.YtpdngjjbhcfplabMi
import Derived.Test.YtpdngjjbhcfplabMj
import Derived.Test.YtpdngjjbhcfplabMk
import Derived.Test.YtpdngjjbhcfplabMl
import Derived.Test.YtpdngjjbhcfplabMn
import Derived.Test.YtpdngjjbhcfplabMo
import Derived.Test.YtpdngjjbhcfplabMp
import Derived.Test.YtpdngjjbhcfplabMq
import Derived.Test.YtpdngjjbhcfplabMr
import Derived.Test.YtpdngjjbhcfplabMt
import Derived.Test.YtpdngjjbhcfplabBa
import Derived.Test.YtpdngjjbhcfplabBb
import Derived.Test.YtpdngjjbhcfplabBc
import Derived.Test.YtpdngjjbhcfplabBd
import Derived.Test.YtpdngjjbhcfplabBe
import Derived.Test.YtpdngjjbhcfplabBf
import Derived.Test.YtpdngjjbhcfplabBg
import Derived.Test.YtpdngjjbhcfplabBh
import Derived.Test.YtpdngjjbhcfplabBi
import Derived.WalkKit
import Derived.ProofKit
import Derived.OpenShut
import Derived.ShutString
import Derived.ChangeOld
import Derived.Below
import Derived.Lib.SmallJoins
namespace Go.Proofs.Ytpdngjjbhcfplab.fnMemory
open Go.ChangeShapes Go.WideShapes Go.ChangeAt Go.RowKit Go.Joins
open Go.ChangeMaps (open_string shut_string)
set_option linter.unusedVariables false

theorem own : ownKnob Try.prog.godebug = none := by kernel_rfl
theorem laidOut : laidOutB Try.prog = true := by kernel_rfl

def IsRow (k : IntKind) (w : World) (a : Option Addr) (len cap : Nat) (zs : List Int) : Prop :=
  (a = none ∧ len = 0 ∧ cap = 0 ∧ zs = []) ∨
  ∃ x, a = some x ∧ len ≤ cap ∧ cap ≤ maxLen ∧ zs.length = cap ∧ (∀ i, i < zs.length → w.cell? (x.add i) = some (.int k (zs.getD i 0))) ∧ ∀ n ∈ zs, (Lit.int k n).wf = true

set_option maxRecDepth 100000 in
set_option maxHeartbeats 8000000 in
theorem walk (a0 : Option Addr) (len0 cap0 : Nat) (z0 : List Int) (a1 : Option Addr) (len1 cap1 : Nat) (z1 : List Int) (w : World) (w0 : IsRow .u8 w a0 len0 cap0 z0) (w1 : IsRow .u8 w a1 len1 cap1 z1) :
    Calls Try.prog 3 #[.slice a0 len0 cap0, .slice a1 len1 cap1] w fun e w' => e = .returned (.bool true) ∧ Below w.heap.size w w' := by
  have hc0 := codeAt_of w0
  have hc1 := codeAt_of w1
  have hnn : ∀ (zs : List Int) (a : Option Addr) (len cap : Nat), IsRow .u8 w a len cap zs → len ≤ maxLen := by
    intro zs a len cap h
    rcases h with ⟨_, rfl, _, _⟩ | ⟨x, _, hl, hm, _⟩
    · exact Nat.zero_le _
    · omega
  have hl0 := hnn _ _ _ _ w0
  have hl1 := hnn _ _ _ _ w1
  clear hnn w0 w1
  unfold maxLen at hl0 hl1
  by_cases h1 : 1048576 < len0
  · go_enter Try.func3, Try.ntmps3
    go_wp2
    go_ret
    exact ⟨rfl, Below.refl _ _⟩
  by_cases h2 : 1048576 < len1
  · go_enter Try.func3, Try.ntmps3
    go_wp2
    go_ret
    exact ⟨rfl, Below.refl _ _⟩
  go_enter Try.func3, Try.ntmps3
  go_wp2_with fail
  refine (memdrawn_any _ _ _ _ hc0 (by omega)).mono ?_
  rintro e w1 ⟨u1, M, rfl, hok, m1, hb1⟩
  obtain ⟨s1, t1, s2, t2, rfl, _, _⟩ := m1.form
  have K1 : Hid (∀ W', Below (w1.alloc (.cells #[.slice s1 M.rom.length t1, .slice s2 M.ram.length t2, .int .i64 M.page, .int .i64 M.screen, .bool M.locked] 26)).heap.size (w1.alloc (.cells #[.slice s1 M.rom.length t1, .slice s2 M.ram.length t2, .int .i64 M.page, .int .i64 M.screen, .bool M.locked] 26)) W' → Blk W' w1.heap.size #[.slice s1 M.rom.length t1, .slice s2 M.ram.length t2, .int .i64 M.page, .int .i64 M.screen, .bool M.locked] ∧ MemR W' (memV (.slice s1 M.rom.length t1) (.slice s2 M.ram.length t2) M.page M.screen M.locked) M ∧ CodeAt W' W'.heap.size a1 len1 ∧ Below w.heap.size w W' ∧ w1.heap.size < W'.heap.size) := by
    intro W' hb
    have ha : Below w1.heap.size w1 (w1.alloc (.cells #[.slice s1 M.rom.length t1, .slice s2 M.ram.length t2, .int .i64 M.page, .int .i64 M.screen, .bool M.locked] 26)) := (Below.refl _ _).alloc (Nat.le_refl _) _
    have hz := hb.size
    rw [World.size_alloc] at hz
    have hbb := new_trans (new_trans hb1 ha) hb
    exact ⟨(Blk.new w1 _ _).below hb (by simp), (m1.below ha).below hb, hc1.below hbb hbb.size, hbb, by omega⟩
  have x1 := (K1.out _ (Below.refl _ _)).1.cell
  clear hc0 hc1 m1 hb1
  -- two numbers
  go_wp2_with fail
  refine (at_any _ _ _ 0 256 _ _ (K1.out _ (Below.refl _ _)).2.2.1 (by omega) (by omega) (by omega) (by omega)).mono ?_
  rintro e w2 ⟨⟨k, rfl, hk0, _, hk1⟩, hb2⟩
  have hk2 : k ≤ 255 := by have := hk1 (by omega); omega
  have K2 : Hid (∀ W', Below w2.heap.size w2 W' → Blk W' w1.heap.size #[.slice s1 M.rom.length t1, .slice s2 M.ram.length t2, .int .i64 M.page, .int .i64 M.screen, .bool M.locked] ∧ MemR W' (memV (.slice s1 M.rom.length t1) (.slice s2 M.ram.length t2) M.page M.screen M.locked) M ∧ CodeAt W' W'.heap.size a1 len1 ∧ Below w.heap.size w W' ∧ w1.heap.size < W'.heap.size) := fun W' hb => K1.out W' (new_trans hb2 hb)
  clear hb2 K1 hk1 x1
  go_wp2_with fail
  refine (at_any _ _ _ 1 256 _ _ (K2.out _ (Below.refl _ _)).2.2.1 (by omega) (by omega) (by omega) (by omega)).mono ?_
  rintro e w3 ⟨⟨v, rfl, hv0, _, hv1⟩, hb3⟩
  have hv2 : v ≤ 255 := by have := hv1 (by omega); omega
  have K3 : Hid (∀ W', Below w3.heap.size w3 W' → Blk W' w1.heap.size #[.slice s1 M.rom.length t1, .slice s2 M.ram.length t2, .int .i64 M.page, .int .i64 M.screen, .bool M.locked] ∧ MemR W' (memV (.slice s1 M.rom.length t1) (.slice s2 M.ram.length t2) M.page M.screen M.locked) M ∧ CodeAt W' W'.heap.size a1 len1 ∧ Below w.heap.size w W' ∧ w1.heap.size < W'.heap.size) := fun W' hb => K2.out W' (new_trans hb3 hb)
  have x3 := (K3.out _ (Below.refl _ _)).1.cell
  clear hb3 K2 hv1
  have hf : Hid (Fit M) := ok_fit hok
  have eC : Hid (pokeC M k v = 0) := by unfold Hid pokeC; rw [if_pos (ask_ok hok hk0 hk2), if_pos (in_yes hv0 hv2)]
  obtain ⟨N, hN⟩ : ∃ N, pokeM M k v = N := ⟨_, rfl⟩
  have eR : Hid (pokeR M k v = N) := by unfold Hid pokeR; rw [eC.out, ← hN]; rfl
  have hokN : okM N = true := by rw [← hN]; exact poke_ok hok (in_yes hv0 hv2)
  have hfN : Hid (Fit N) := ok_fit hokN
  have hpg : Hid (N.page = M.page) := by rw [← hN]; exact poke_page M k v
  have hpk : Hid (∀ i : Int, 0 ≤ i → i ≤ 255 → peekI N i = if bankI M.page i = bankI M.page k ∧ i % 64 = k % 64 ∧ 0 ≤ bankI M.page k then v else peekI M i) := fun i i0 i1 => by rw [← hN]; exact peek_poke hok hk0 hk2 i0 i1
  have eW : Hid (∀ i : Int, 0 ≤ i → i ≤ 255 → where3 M i = .tuple #[.int .i64 (bankI M.page i), .int .i64 (i % 64), .int .i64 0]) := fun i i0 i1 => by unfold where3; rw [if_pos (ask_ok hok i0 i1)]
  have eWN : Hid (∀ i : Int, 0 ≤ i → i ≤ 255 → where3 N i = .tuple #[.int .i64 (bankI M.page i), .int .i64 (i % 64), .int .i64 0]) := fun i i0 i1 => by unfold where3; rw [if_pos (ask_ok hokN i0 i1), hpg.out]
  have eP : Hid (∀ i : Int, 0 ≤ i → i ≤ 255 → peek2 M i = .tuple #[.int .i64 (peekI M i), .int .i64 0]) := fun i i0 i1 => by unfold peek2; rw [if_pos (ask_ok hok i0 i1)]
  have ePN : Hid (∀ i : Int, 0 ≤ i → i ≤ 255 → peek2 N i = .tuple #[.int .i64 (peekI N i), .int .i64 0]) := fun i i0 i1 => by unfold peek2; rw [if_pos (ask_ok hokN i0 i1)]
  have eS : Hid (shared2 M k = .tuple #[.bool (decide (bankI M.page k = 1 ∨ bankI M.page k = 3)), .int .i64 0]) := by unfold Hid shared2; rw [if_pos (ask_ok hok hk0 hk2)]
  have eSm : Hid (sameM N N = true) := same_self hokN
  clear hN
  replace hok := hid hok
  replace hokN := hid hokN
  -- the write
  go_wp2_with fail
  refine (poke_impl _ M k v _ ?_ hf.out).mono ?_
  · exact (K3.out _ (Below.refl _ _)).2.1
  rintro e w4 ⟨u4, rfl, hm4, hb4⟩
  rw [eR.out] at hm4
  rw [eC.out]
  have m4 := hid hm4.reads
  obtain ⟨p1, q1, p2, q2, rfl, _, _⟩ := hm4.reads.form
  have K4 : Hid (∀ W', Below (w4.alloc (.cells #[.slice p1 N.rom.length q1, .slice p2 N.ram.length q2, .int .i64 N.page, .int .i64 N.screen, .bool N.locked] 26)).heap.size (w4.alloc (.cells #[.slice p1 N.rom.length q1, .slice p2 N.ram.length q2, .int .i64 N.page, .int .i64 N.screen, .bool N.locked] 26)) W' → (Blk W' w1.heap.size #[.slice s1 M.rom.length t1, .slice s2 M.ram.length t2, .int .i64 M.page, .int .i64 M.screen, .bool M.locked] ∧ MemR W' (memV (.slice s1 M.rom.length t1) (.slice s2 M.ram.length t2) M.page M.screen M.locked) M ∧ CodeAt W' W'.heap.size a1 len1 ∧ Below w.heap.size w W' ∧ w1.heap.size < W'.heap.size) ∧ Blk W' w4.heap.size #[.slice p1 N.rom.length q1, .slice p2 N.ram.length q2, .int .i64 N.page, .int .i64 N.screen, .bool N.locked] ∧ MemR W' (memV (.slice p1 N.rom.length q1) (.slice p2 N.ram.length q2) N.page N.screen N.locked) N ∧ w4.heap.size < W'.heap.size) := by
    intro W' hb
    have ha : Below w4.heap.size w4 (w4.alloc (.cells #[.slice p1 N.rom.length q1, .slice p2 N.ram.length q2, .int .i64 N.page, .int .i64 N.screen, .bool N.locked] 26)) := (Below.refl _ _).alloc (Nat.le_refl _) _
    have hz := hb.size
    rw [World.size_alloc] at hz
    exact ⟨K3.out W' (new_trans (new_trans hb4 ha) hb), (Blk.new w4 _ _).below hb (by simp), (m4.out.below ha).below hb, by omega⟩
  have o4 := (K3.out _ hb4).2.2.2.2
  clear x3 hm4 hb4 K3
  have x4 := (K4.out _ (Below.refl _ _)).1.1.cell
  go_wp2_with fail
  refine (poke_spec _ M k v _ ?_ hf.out).mono ?_
  · exact (K4.out _ (Below.refl _ _)).1.2.1
  rintro e w5 ⟨u5, rfl, hm5, hb5⟩
  rw [eR.out] at hm5
  rw [eC.out]
  have m5 := hid hm5.reads
  obtain ⟨r1, u1, r2, u2, rfl, _, _⟩ := hm5.reads.form
  have K5 : Hid (∀ W', Below (w5.alloc (.cells #[.slice r1 N.rom.length u1, .slice r2 N.ram.length u2, .int .i64 N.page, .int .i64 N.screen, .bool N.locked] 26)).heap.size (w5.alloc (.cells #[.slice r1 N.rom.length u1, .slice r2 N.ram.length u2, .int .i64 N.page, .int .i64 N.screen, .bool N.locked] 26)) W' → ((Blk W' w1.heap.size #[.slice s1 M.rom.length t1, .slice s2 M.ram.length t2, .int .i64 M.page, .int .i64 M.screen, .bool M.locked] ∧ MemR W' (memV (.slice s1 M.rom.length t1) (.slice s2 M.ram.length t2) M.page M.screen M.locked) M ∧ CodeAt W' W'.heap.size a1 len1 ∧ Below w.heap.size w W' ∧ w1.heap.size < W'.heap.size) ∧ Blk W' w4.heap.size #[.slice p1 N.rom.length q1, .slice p2 N.ram.length q2, .int .i64 N.page, .int .i64 N.screen, .bool N.locked] ∧ MemR W' (memV (.slice p1 N.rom.length q1) (.slice p2 N.ram.length q2) N.page N.screen N.locked) N ∧ w4.heap.size < W'.heap.size) ∧ Blk W' w5.heap.size #[.slice r1 N.rom.length u1, .slice r2 N.ram.length u2, .int .i64 N.page, .int .i64 N.screen, .bool N.locked] ∧ MemR W' (memV (.slice r1 N.rom.length u1) (.slice r2 N.ram.length u2) N.page N.screen N.locked) N) := by
    intro W' hb
    have ha : Below w5.heap.size w5 (w5.alloc (.cells #[.slice r1 N.rom.length u1, .slice r2 N.ram.length u2, .int .i64 N.page, .int .i64 N.screen, .bool N.locked] 26)) := (Below.refl _ _).alloc (Nat.le_refl _) _
    exact ⟨K4.out W' (new_trans (new_trans hb5 ha) hb), (Blk.new w5 _ _).below hb (by simp), (m5.out.below ha).below hb⟩
  clear x4 hm5 hb5 K4 m4 m5
  obtain ⟨b5, hb5⟩ : ∃ b, w1.heap.size = b := ⟨_, rfl⟩
  obtain ⟨b8, hb8⟩ : ∃ b, w4.heap.size = b := ⟨_, rfl⟩
  obtain ⟨b10, hb10⟩ : ∃ b, w5.heap.size = b := ⟨_, rfl⟩
  obtain ⟨W5, hW5⟩ : ∃ W, (w5.alloc (.cells #[.slice r1 N.rom.length u1, .slice r2 N.ram.length u2, .int .i64 N.page, .int .i64 N.screen, .bool N.locked] 26)) = W := ⟨_, rfl⟩
  rw [hW5] at K5
  rw [hb5, hb8, hb10] at K5
  have x5 := (K5.out _ (Below.refl _ _)).1.1.1.cell
  go_wp2_with fail
  clear hb5 hb8 hb10 hW5
  refine (where_impl _ M k _ ?_ hf.out).mono ?_
  · exact (K5.out _ (Below.refl _ _)).1.1.2.1
  rintro e w6 ⟨rfl, hb6⟩
  rw [eW.out k hk0 hk2]
  have K6 := hid (fun W' hb => K5.out W' (new_trans hb6 hb))
  clear x5 hb6 K5
  have x6 := (K6.out _ (Below.refl _ _)).1.1.1.cell
  go_wp2_with fail
  refine (shared_impl _ M k _ ?_ hf.out).mono ?_
  · exact (K6.out _ (Below.refl _ _)).1.1.2.1
  rintro e w7 ⟨rfl, hb7⟩
  rw [eS.out]
  have K7 := hid (fun W' hb => K6.out W' (new_trans hb7 hb))
  clear x6 hb7 K6
  have x8 := (K7.out _ (Below.refl _ _)).1.2.1.cell
  have x10 := (K7.out _ (Below.refl _ _)).2.1.cell
  obtain ⟨bk, hbk⟩ : ∃ bk, bankI M.page k = bk := ⟨_, rfl⟩
  obtain ⟨rk, hrk⟩ : ∃ rk, k % 64 = rk := ⟨_, rfl⟩
  rw [hbk] at hpk ⊢
  rw [hrk] at hpk
  obtain ⟨sb, hsb, hsb2⟩ : ∃ sb : Bool, decide (bk = 1 ∨ bk = 3) = sb ∧ (((bk == 1) || (bk == 3)) = sb) := ⟨_, rfl, by rw [Bool.eq_iff_iff]; simp⟩
  rw [hsb]
  replace hbk := hid hbk
  clear hsb
  go_wp2_with fail
  refine (same_impl _ _ N N _ ?_ ?_ hfN.out hfN.out).mono ?_
  · exact (K7.out _ (Below.refl _ _)).1.2.2.1
  · exact (K7.out _ (Below.refl _ _)).2.2
  rintro e w8 ⟨rfl, hb8⟩
  rw [eSm.out]
  have K8 := hid (fun W' hb => K7.out W' (new_trans hb8 hb))
  clear x8 x10 hb8 K7
  have x8 := (K8.out _ (Below.refl _ _)).1.2.1.cell
  have hsplit : ((bk == 1) = true ∧ sb = true) ∨ ((bk == 1) = false ∧ (bk == 3) = sb) := by
    cases h : (bk == 1)
    · right
      rw [h] at hsb2
      exact ⟨rfl, by simpa using hsb2⟩
    · left
      rw [h] at hsb2
      exact ⟨rfl, by simpa using hsb2.symm⟩
  have hrr : (rk != rk) = false := by simp
  have hss : (sb != sb) = false := by simp
  clear hsb2
  have REST : Hid True := trivial
  rcases hsplit with ⟨hs1, rfl⟩ | ⟨hs1, hs3⟩
  all_goals
    go_wp2_with fail
    refine (ok_impl _ N _ ?_ hfN.out.1 hfN.out.2.1 hfN.out.2.2).mono ?_
    · exact (K8.out _ (Below.refl _ _)).1.2.2.1
    rintro e w9 ⟨rfl, hb9⟩
    rw [hokN.out]
    have K9 := hid (fun W' hb => K8.out W' (new_trans hb9 hb))
    clear x8 hb9 K8
    go_wp2
    go_loopw [17] (fun i wr => ∃ j : Nat, j ≤ 256 ∧ i = .int .i64 j ∧ Below w9.heap.size w9 wr) (fun i _ => 256 - (intOf i).toNat)
    case atStart => exact ⟨0, by omega, rfl, Below.refl _ _⟩
    case round =>
      obtain ⟨j, hj, rfl, hB⟩ := hrel
      replace hB := hid hB
      by_cases hlt : j < 256
      · have i0 : (0 : Int) ≤ (j : Int) := Int.natCast_nonneg _
        have i1 : (j : Int) ≤ 255 := by omega
        have f1 := hid (eP.out j i0 i1)
        have f2 := hid (ePN.out j i0 i1)
        have f3 := hid (eWN.out j i0 i1)
        have f4 := hpk.out j i0 i1
        obtain ⟨P, hP⟩ : ∃ P, peekI M (j : Int) = P := ⟨_, rfl⟩
        obtain ⟨Q, hQ⟩ : ∃ Q, peekI N (j : Int) = Q := ⟨_, rfl⟩
        obtain ⟨bj, hbj⟩ : ∃ bj, bankI M.page (j : Int) = bj := ⟨_, rfl⟩
        obtain ⟨rj, hrj⟩ : ∃ rj, (j : Int) % 64 = rj := ⟨_, rfl⟩
        rw [hP] at f1 f4
        rw [hQ] at f2 f4
        rw [hbj] at f3 f4
        rw [hrj] at f3 f4
        clear hP hQ hbj hrj
        replace f4 := hid f4
        have y5 := (K9.out _ hB.out).1.1.1.cell
        go_wp2_with fail
        refine (peek_impl _ M (j : Int) _ ?_ hf.out).mono ?_
        · exact (K9.out _ hB.out).1.1.2.1
        rintro e v1 ⟨rfl, hc1⟩
        rw [f1.out]
        have B1 := hid (new_trans hB.out hc1)
        clear hc1 y5
        have y8 := (K9.out _ B1.out).1.2.1.cell
        go_wp2_with fail
        refine (peek_impl _ N (j : Int) _ ?_ hfN.out).mono ?_
        · exact (K9.out _ B1.out).1.2.2.1
        rintro e v2 ⟨rfl, hc2⟩
        rw [f2.out]
        have B2 := hid (new_trans B1.out hc2)
        clear hc2 y8 B1
        have y8 := (K9.out _ B2.out).1.2.1.cell
        go_wp2_with fail
        refine (where_impl _ N (j : Int) _ ?_ hfN.out).mono ?_
        · exact (K9.out _ B2.out).1.2.2.1
        rintro e v3 ⟨rfl, hc3⟩
        rw [f3.out]
        have B3 := hid (new_trans B2.out hc3)
        clear hc3 y8 B2 f1 f2 f3
        have hcase : ((bj == bk) = false ∧ (Q != P) = false) ∨ ((bj == bk) = true ∧ (rj == rk) = false ∧ (Q != P) = false) ∨ ((bj == bk) = true ∧ (rj == rk) = true ∧ (decide (0 ≤ bk)) = false ∧ (Q != P) = false) ∨ ((bj == bk) = true ∧ (rj == rk) = true ∧ (decide (0 ≤ bk)) = true ∧ (Q != v) = false) := by
          have f4 := f4.out
          by_cases c1 : bj = bk
          · by_cases c2 : rj = rk
            · by_cases c3 : 0 ≤ bk
              · rw [if_pos ⟨c1, c2, c3⟩] at f4
                exact .inr (.inr (.inr ⟨by simp [c1], by simp [c2], by simp [c3], by simp [f4]⟩))
              · rw [if_neg (fun h => c3 h.2.2)] at f4
                exact .inr (.inr (.inl ⟨by simp [c1], by simp [c2], by simp [c3], by simp [f4]⟩))
            · rw [if_neg (fun h => c2 h.2.1)] at f4
              exact .inr (.inl ⟨by simp [c1], by simpa using c2, by simp [f4]⟩)
          · rw [if_neg (fun h => c1 h.1)] at f4
            exact .inl ⟨by simpa using c1, by simp [f4]⟩
        clear f4
        rcases hcase with ⟨c1, c2⟩ | ⟨c1, c2, c3⟩ | ⟨c1, c2, c3, c4⟩ | ⟨c1, c2, c3, c4⟩
        all_goals
          go_wp2
          go_roundw
          case rel => exact ⟨j + 1, by omega, by go_num, B3.out⟩
          case measure => simp [intOf]; omega
      · obtain rfl : j = 256 := by omega
        have hBe := hid (K9.out _ hB.out).1.1.2.2.2.1
        go_wp2
        go_ret
        exact ⟨rfl, hBe.out⟩

set_option maxRecDepth 100000 in
theorem lifted (os : Os) (started : os.Started) (H : Type) (enc : TypeId × Value → H) :
    ReturnsInHanded {} Try.checked os 3 .any (Rows.fnMemorySpec.pre6 enc Try.prog Try.f3 Rows.fnMemoryRow.domain false) (Rows.fnMemorySpec.post enc Try.prog Try.f3 false true false false) := by
  refine returnsInHanded_of_change (C := Try.checked) own started (by kernel_rfl) Try.func3
    (ChangeSpec.witness6 (enc := enc) (C := Try.checked) false ⟨#[], #[.slice none 0 0, .slice none 0 0], []⟩ 8 (by kernel_rfl) (by kernel_rfl) (by kernel_rfl) (by kernel_rfl)) ?_
  intro W base args ds gs before hval0 hW hcnd _
  have hval : ∀ (j : Nat) t v, Try.f3.params[j]? = some t → args[j]? = some v → Value.okWide Try.prog W .any base t v := hval0
  have hW' := hW
  obtain ⟨p, q, hA0, hV, rfl, hfz, hnd⟩ := hW
  have hA : DataW.TrodAll enc Try.prog W 0 (fun _ => true) true Try.f3.params.toList args.toList ds p := hA0
  rw [Try.params3] at hA hval
  obtain ⟨v0, vs0, d0, ds0, p0, q0, hargs, rfl, rfl, h0, r0⟩ := trodAll_cons hA
  obtain ⟨v1, vs1, d1, ds1, p1, q1, rfl, rfl, rfl, h1, r1⟩ := trodAll_cons r0
  obtain ⟨rfl, rfl, rfl⟩ := trodAll_nil r1
  obtain rfl : args = #[v0, v1] := by cases args; simp_all
  obtain ⟨rfl, rfl⟩ := trodVars_none hV
  obtain ⟨a0, len0, cap0, rfl⟩ := okWide_slice Try.underlying22 (hval 0 22 v0 rfl rfl)
  have k0 := h0
  have lt0 : ∀ x ∈ p0, x.block < W.heap.size := by obtain ⟨m, hm⟩ := k0; exact DataW.trod_lt m _ _ _ hm
  obtain ⟨z0, w0⟩ : ∃ zs, IsRow .u8 W a0 len0 cap0 zs := by
    obtain ⟨fuel, hf⟩ := h0
    rcases open_ints Try.underlying22 Try.underlying5 (by kernel_rfl) hf with ⟨hcs, _⟩ | ⟨x, l, c, zs, hcs, _, hl, hm, hz, _, hcell, hwz⟩
    · simp [Value.cells] at hcs
      obtain ⟨rfl, rfl, rfl⟩ := hcs
      exact ⟨[], .inl ⟨rfl, rfl, rfl, rfl⟩⟩
    · simp [Value.cells] at hcs
      obtain ⟨rfl, rfl, rfl⟩ := hcs
      exact ⟨zs, .inr ⟨_, rfl, hl, hm, by simpa using hz, hcell, hwz⟩⟩
  obtain ⟨a1, len1, cap1, rfl⟩ := okWide_slice Try.underlying22 (hval 1 22 v1 rfl rfl)
  have k1 := h1
  have lt1 : ∀ x ∈ p1, x.block < W.heap.size := by obtain ⟨m, hm⟩ := k1; exact DataW.trod_lt m _ _ _ hm
  obtain ⟨z1, w1⟩ : ∃ zs, IsRow .u8 W a1 len1 cap1 zs := by
    obtain ⟨fuel, hf⟩ := h1
    rcases open_ints Try.underlying22 Try.underlying5 (by kernel_rfl) hf with ⟨hcs, _⟩ | ⟨x, l, c, zs, hcs, _, hl, hm, hz, _, hcell, hwz⟩
    · simp [Value.cells] at hcs
      obtain ⟨rfl, rfl, rfl⟩ := hcs
      exact ⟨[], .inl ⟨rfl, rfl, rfl, rfl⟩⟩
    · simp [Value.cells] at hcs
      obtain ⟨rfl, rfl, rfl⟩ := hcs
      exact ⟨zs, .inr ⟨_, rfl, hl, hm, by simpa using hz, hcell, hwz⟩⟩
  clear hA0 hval0
  refine (walk a0 len0 cap0 z0 a1 len1 cap1 z1 W w0 w1).mono fun e W' ⟨he, bel⟩ => ?_
  subst he
  exact ⟨_, rfl, _, _, _, [], _, [], hW', (trodAll_cons_mk (shut_bool Try.underlying4 _) trodAll_mk0), (trodAll_cons_mk (Below.trod laidOut (by kernel_rfl) (of_decide_eq_true (by kernel_rfl)) k0 bel lt0) (trodAll_cons_mk (Below.trod laidOut (by kernel_rfl) (of_decide_eq_true (by kernel_rfl)) k1 bel lt1) trodAll_mk0)), rfl, bel.frame _, fun h => by cases h⟩

theorem said : Rows.FnMemorySaid :=
  OpenClaim.holds_of_wide 3 Try.f3 rfl rfl rfl rfl rfl rfl rfl ⟨rfl, rfl, rfl, rfl, rfl⟩ rfl rfl rfl rfl rfl (by kernel_rfl) Try.func3 (by kernel_rfl)
    (of_decide_eq_true (by kernel_rfl)) (by unfold Func.isWrapper; first | (rw [if_pos (by decide +kernel)]; kernel_rfl) | (rw [if_neg (by decide +kernel)]; exact ⟨rfl, rfl⟩))
    (fun os started H enc _ => lifted os started H enc)
end Go.Proofs.Ytpdngjjbhcfplab.fnMemory
namespace Go.Proofs.Ytpdngjjbhcfplab
theorem fnMemory_holds : Rows.FnMemorySaid := fnMemory.said
#print axioms fnMemory_holds
end Go.Proofs.Ytpdngjjbhcfplab
