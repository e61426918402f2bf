/- For all bytes the law FnPaging returns true: paged away and back again a bank is as it was, and locked nothing is paged any more. -/
import Derived.Test.YtpdngjjbhcfplabRows
import Derived.Test.YtpdngjjbhcfplabBase
import Derived.Test.YtpdngjjbhcfplabIn
import Derived.Test.YtpdngjjbhcfplabBt
import Derived.Test.YtpdngjjbhcfplabSrc
import Derived.Test.YtpdngjjbhcfplabMa
import Derived.Test.YtpdngjjbhcfplabMb
import Derived.Test.YtpdngjjbhcfplabMc
import Derived.Test.YtpdngjjbhcfplabMd
import Derived.Test.YtpdngjjbhcfplabBl
import Derived.Test.YtpdngjjbhcfplabMf
import Derived.Test.YtpdngjjbhcfplabMg
import Derived.Test.YtpdngjjbhcfplabMh
import Derived.Test.YtpdngjjbhcfplabMi
import Derived.Test.YtpdngjjbhcfplabMj
import Derived.Test.YtpdngjjbhcfplabMk
import Derived.Test.YtpdngjjbhcfplabMl
import Derived.Test.YtpdngjjbhcfplabMn
import Derived.Test.YtpdngjjbhcfplabMq
import Derived.Test.YtpdngjjbhcfplabMr
import Derived.Test.YtpdngjjbhcfplabMt
import Derived.Test.YtpdngjjbhcfplabMu
import Derived.Test.YtpdngjjbhcfplabMv
import Derived.Test.YtpdngjjbhcfplabAx
import Derived.Test.YtpdngjjbhcfplabFp
import Derived.Test.YtpdngjjbhcfplabBa
import Derived.Test.YtpdngjjbhcfplabBb
import Derived.Test.YtpdngjjbhcfplabBc
import Derived.Test.YtpdngjjbhcfplabBd
import Derived.Test.YtpdngjjbhcfplabBe
import Derived.Test.YtpdngjjbhcfplabBf
import Derived.Test.YtpdngjjbhcfplabBg
import Derived.Test.YtpdngjjbhcfplabBh
import Derived.Test.YtpdngjjbhcfplabBi
import Derived.Test.YtpdngjjbhcfplabBj
import Derived.WalkKit
import Derived.ProofKit
import Derived.OpenShut
import Derived.ShutString
import Derived.ChangeOld
import Derived.Below
import Derived.Lib.SmallJoins
namespace Go.Proofs.Ytpdngjjbhcfplab.fnPaging
open Go.ChangeShapes Go.WideShapes Go.ChangeAt Go.RowKit Go.Joins
open Go.ChangeMaps (open_string shut_string)
set_option linter.unusedVariables false

theorem own : ownKnob Try.prog.godebug = none := by kernel_rfl
theorem laidOut : laidOutB Try.prog = true := by kernel_rfl

def IsRow (k : IntKind) (w : World) (a : Option Addr) (len cap : Nat) (zs : List Int) : Prop :=
  (a = none ∧ len = 0 ∧ cap = 0 ∧ zs = []) ∨
  ∃ x, a = some x ∧ len ≤ cap ∧ cap ≤ maxLen ∧ zs.length = cap ∧ (∀ i, i < zs.length → w.cell? (x.add i) = some (.int k (zs.getD i 0))) ∧ ∀ n ∈ zs, (Lit.int k n).wf = true

set_option maxRecDepth 100000 in
set_option maxHeartbeats 3000000 in
theorem walk (a0 : Option Addr) (len0 cap0 : Nat) (z0 : List Int) (a1 : Option Addr) (len1 cap1 : Nat) (z1 : List Int) (w : World) (w0 : IsRow .u8 w a0 len0 cap0 z0) (w1 : IsRow .u8 w a1 len1 cap1 z1) :
    Calls Try.prog 4 #[.slice a0 len0 cap0, .slice a1 len1 cap1] w fun e w' => e = .returned (.bool true) ∧ Below w.heap.size w w' := by
  have hc0 := codeAt_of w0
  have hc1 := codeAt_of w1
  have hnn : ∀ (zs : List Int) (a : Option Addr) (len cap : Nat), IsRow .u8 w a len cap zs → len ≤ maxLen := by
    intro zs a len cap h
    rcases h with ⟨_, rfl, _, _⟩ | ⟨x, _, hl, hm, _⟩
    · exact Nat.zero_le _
    · omega
  have hl0 := hnn _ _ _ _ w0
  have hl1 := hnn _ _ _ _ w1
  clear hnn w0 w1
  unfold maxLen at hl0 hl1
  by_cases h1 : 1048576 < len0
  · go_enter Try.func4, Try.ntmps4
    go_wp2
    go_ret
    exact ⟨rfl, Below.refl _ _⟩
  by_cases h2 : 1048576 < len1
  · go_enter Try.func4, Try.ntmps4
    go_wp2
    go_ret
    exact ⟨rfl, Below.refl _ _⟩
  have hC : Hid (∀ W', Below w.heap.size w W' → CodeAt W' W'.heap.size a1 len1 ∧ ∀ (i : Nat) (n : Int), atV W' a1 len1 i n = atV w a1 len1 i n) := fun W' hb => ⟨hc1.below hb hb.size, fun i n => atV_below hc1 hb i n⟩
  obtain ⟨p, hp⟩ : ∃ p : Nat, atV w a1 len1 0 4 = (p : Int) := ⟨(atV w a1 len1 0 4).toNat, by have := (atV_bd (w := w) (a := a1) (len := len1) (i := 0) (n := 4) (by omega)).1; omega⟩
  obtain ⟨q, hq⟩ : ∃ q : Nat, atV w a1 len1 1 4 = (q : Int) := ⟨(atV w a1 len1 1 4).toNat, by have := (atV_bd (w := w) (a := a1) (len := len1) (i := 1) (n := 4) (by omega)).1; omega⟩
  obtain ⟨r, hr⟩ : ∃ r : Int, atV w a1 len1 2 64 = r := ⟨_, rfl⟩
  have hp4 : p < 4 := by have := (atV_bd (w := w) (a := a1) (len := len1) (i := 0) (n := 4) (by omega)).2; omega
  have hq4 : q < 4 := by have := (atV_bd (w := w) (a := a1) (len := len1) (i := 1) (n := 4) (by omega)).2; omega
  have hr0 : 0 ≤ r := by have := (atV_bd (w := w) (a := a1) (len := len1) (i := 2) (n := 64) (by omega)).1; omega
  have hr1 : r < 64 := by have := (atV_bd (w := w) (a := a1) (len := len1) (i := 2) (n := 64) (by omega)).2; omega
  replace hp := hid hp
  replace hq := hid hq
  replace hr := hid hr
  clear hc1
  go_enter Try.func4, Try.ntmps4
  -- the ROM, the memory
  go_wp2_with fail
  refine (romdrawn_any _ _ _ _ hc0 (by omega)).mono ?_
  rintro e w1 ⟨⟨s, rfl, hs64⟩, hb1⟩
  replace hb1 := hid hb1
  have hsm : Hid (s.size ≤ maxLen) := by unfold Hid maxLen; omega
  have hokA := new_ok hs64
  have hlkA : (newM s).locked = false := by unfold newM; rw [if_pos hs64]
  have hcA : Hid (newC s = 0) := by unfold Hid newC; rw [if_neg (by omega), if_pos hs64]
  obtain ⟨A, hA⟩ : ∃ A, newM s = A := ⟨_, rfl⟩
  rw [hA] at hokA hlkA
  replace hA := hid hA
  clear hs64 hc0
  -- the memories that follow
  obtain ⟨B, hB⟩ : ∃ B, pageM A (p : Int) = B := ⟨_, rfl⟩
  have hokB : okM B = true := by rw [← hB]; exact page_ok hokA
  have eB : B = { A with page := (p : Int), screen := 1, locked := false } := by rw [← hB]; exact page_0 A p hp4
  have hBpg : B.page = (p : Int) := by rw [eB]
  have hBlk : B.locked = false := by rw [eB]
  obtain ⟨C, hCm⟩ : ∃ C, pokeM B (192 + r) 77 = C := ⟨_, rfl⟩
  have hokC : okM C = true := by rw [← hCm]; exact poke_ok hokB (in_yes (by omega) (by omega))
  have hClk : C.locked = false := by rw [← hCm]; unfold pokeM; split <;> exact hBlk
  obtain ⟨D, hD⟩ : ∃ D, pageM C ((q : Int) + 8) = D := ⟨_, rfl⟩
  have hokD : okM D = true := by rw [← hD]; exact page_ok hokC
  have eD : D = { C with page := (q : Int), screen := 3, locked := false } := by rw [← hD]; exact page_8 C q hq4
  have hDpg : D.page = (q : Int) := by rw [eD]
  have hDsc : D.screen = 3 := by rw [eD]
  have hDlk : D.locked = false := by rw [eD]
  obtain ⟨E, hE⟩ : ∃ E, pageM D ((p : Int) + 32) = E := ⟨_, rfl⟩
  have hokE : okM E = true := by rw [← hE]; exact page_ok hokD
  have eE : E = { D with page := (p : Int), screen := 1, locked := true } := by rw [← hE]; exact page_32 D p hp4
  have hEsc : E.screen = 1 := by rw [eE]
  have hElk : E.locked = true := by rw [eE]
  have hpk : peekI E (192 + r) = 77 := by rw [eE, eD, ← hCm]; exact paged_back hokB hp4 hr0 hr1 _ _ _ _ hBpg
  have hwb : bankI D.page 200 = (q : Int) := by unfold bankI; rw [if_neg (by omega), if_neg (by omega), if_neg (by omega), hDpg]
  have gAC : Hid (pageC A (p : Int) = 0 ∧ pageR A (p : Int) = B) := by have := pageC_0 hokA hlkA (v := (p : Int)) (by omega) (by omega); rw [hB] at this; exact this
  have gB : Hid (pokeC B (192 + r) 77 = 0 ∧ pokeR B (192 + r) 77 = C) := by
    have e1 : pokeC B (192 + r) 77 = 0 := by unfold pokeC; rw [if_pos (ask_ok hokB (by omega) (by omega)), if_pos (in_yes (by omega) (by omega))]
    refine ⟨e1, ?_⟩
    unfold pokeR
    rw [if_pos e1, hCm]
  have gC : Hid (pageC C ((q : Int) + 8) = 0 ∧ pageR C ((q : Int) + 8) = D) := by have := pageC_0 hokC hClk (v := (q : Int) + 8) (by omega) (by omega); rw [hD] at this; exact this
  have gD : Hid (pageC D ((p : Int) + 32) = 0 ∧ pageR D ((p : Int) + 32) = E) := by have := pageC_0 hokD hDlk (v := (p : Int) + 32) (by omega) (by omega); rw [hE] at this; exact this
  have gE : Hid (pageC E (q : Int) = 12 ∧ pageR E (q : Int) = E) := pageC_12 hokE hElk (by omega) (by omega)
  have gP : Hid (peek2 E (192 + r) = .tuple #[.int .i64 77, .int .i64 0]) := by unfold Hid peek2; rw [if_pos (ask_ok hokE (by omega) (by omega)), hpk]
  have gW : Hid (where3 D 200 = .tuple #[.int .i64 (q : Int), .int .i64 8, .int .i64 0]) := by unfold Hid where3; rw [if_pos (ask_ok hokD (by omega) (by omega)), hwb]; rfl
  have gS : Hid (sameM E E = true) := same_self hokE
  have fA : Hid (Fit A) := ok_fit hokA
  have fB : Hid (Fit B) := ok_fit hokB
  have fC : Hid (Fit C) := ok_fit hokC
  have fD : Hid (Fit D) := ok_fit hokD
  have fE : Hid (Fit E) := ok_fit hokE
  replace hDsc := hid hDsc
  replace hEsc := hid hEsc
  replace hElk := hid hElk
  clear hB eB hBpg hBlk hCm hClk hD eD hDpg hDlk hE eE hpk hwb hokA hlkA hokB hokC hokD hokE
  go_wp2_with fail
  refine (new_impl s _ hsm.out).mono ?_
  rintro e w2 ⟨u2, rfl, hm2, hb2⟩
  rw [hA.out] at hm2
  rw [hcA.out]
  have m2 := hid hm2.reads
  obtain ⟨x1, x2, x3, x4, rfl, _, _⟩ := hm2.reads.form
  have K2 : Hid (∀ W', Below (w2.alloc (.cells #[.slice x1 A.rom.length x2, .slice x3 A.ram.length x4, .int .i64 A.page, .int .i64 A.screen, .bool A.locked] 26)).heap.size (w2.alloc (.cells #[.slice x1 A.rom.length x2, .slice x3 A.ram.length x4, .int .i64 A.page, .int .i64 A.screen, .bool A.locked] 26)) W' → Blk W' w2.heap.size #[.slice x1 A.rom.length x2, .slice x3 A.ram.length x4, .int .i64 A.page, .int .i64 A.screen, .bool A.locked] ∧ MemR W' (memV (.slice x1 A.rom.length x2) (.slice x3 A.ram.length x4) A.page A.screen A.locked) A ∧ Below w.heap.size w W') := by
    intro W' hb
    have ha : Below w2.heap.size w2 (w2.alloc (.cells #[.slice x1 A.rom.length x2, .slice x3 A.ram.length x4, .int .i64 A.page, .int .i64 A.screen, .bool A.locked] 26)) := (Below.refl _ _).alloc (Nat.le_refl _) _
    exact ⟨(Blk.new w2 _ _).below hb (by simp), (m2.out.below ha).below hb, new_trans (new_trans (new_trans hb1.out hb2) ha) hb⟩
  clear hm2 hb2 hb1 m2 hA hcA hsm
  -- two numbers
  go_wp2_with fail
  refine (at_val a1 len1 _ 0 4 _ _ (hC.out _ (K2.out _ (Below.refl _ _)).2.2).1 (by omega) (by omega) (by omega)).mono ?_
  rintro e w3 ⟨rfl, hb3⟩
  rw [(hC.out _ (K2.out _ (Below.refl _ _)).2.2).2, hp.out]
  have K3 := hid (fun W' hb => K2.out W' (new_trans hb3 hb))
  clear hb3 K2
  go_wp2_with fail
  refine (at_val a1 len1 _ 1 4 _ _ (hC.out _ (K3.out _ (Below.refl _ _)).2.2).1 (by omega) (by omega) (by omega)).mono ?_
  rintro e w4 ⟨rfl, hb4⟩
  rw [(hC.out _ (K3.out _ (Below.refl _ _)).2.2).2, hq.out]
  have K4 := hid (fun W' hb => K3.out W' (new_trans hb4 hb))
  clear hb4 K3
  have y4 := (K4.out _ (Below.refl _ _)).1.cell
  -- the first page
  go_wp2_with fail
  refine (page_impl _ A (p : Int) _ (K4.out _ (Below.refl _ _)).2.1 fA.out).mono ?_
  rintro e w5 ⟨u5, rfl, hm5, hb5⟩
  rw [gAC.out.2] at hm5
  rw [gAC.out.1]
  have m5 := hid hm5.reads
  obtain ⟨yy1, yy2, yy3, yy4, rfl, _, _⟩ := hm5.reads.form
  have hbw5 := hid (K4.out _ hb5).2.2
  clear y4 hm5 K4 hb5
  have K5 : Hid (∀ W', Below (w5.alloc (.cells #[.slice yy1 B.rom.length yy2, .slice yy3 B.ram.length yy4, .int .i64 B.page, .int .i64 B.screen, .bool B.locked] 26)).heap.size (w5.alloc (.cells #[.slice yy1 B.rom.length yy2, .slice yy3 B.ram.length yy4, .int .i64 B.page, .int .i64 B.screen, .bool B.locked] 26)) W' → Blk W' w5.heap.size #[.slice yy1 B.rom.length yy2, .slice yy3 B.ram.length yy4, .int .i64 B.page, .int .i64 B.screen, .bool B.locked] ∧ MemR W' (memV (.slice yy1 B.rom.length yy2) (.slice yy3 B.ram.length yy4) B.page B.screen B.locked) B ∧ Below w.heap.size w W' ∧ w5.heap.size < W'.heap.size) := by
    intro W' hb
    have ha : Below w5.heap.size w5 (w5.alloc (.cells #[.slice yy1 B.rom.length yy2, .slice yy3 B.ram.length yy4, .int .i64 B.page, .int .i64 B.screen, .bool B.locked] 26)) := (Below.refl _ _).alloc (Nat.le_refl _) _
    have hz := hb.size
    rw [World.size_alloc] at hz
    exact ⟨(Blk.new w5 _ _).below hb (by simp), (m5.out.below ha).below hb, new_trans (new_trans hbw5.out ha) hb, by omega⟩
  have hNb := hbw5.out.size
  clear hbw5 m5
  obtain ⟨b9, hb9⟩ : ∃ b, w5.heap.size = b := ⟨_, rfl⟩
  rw [hb9] at hNb
  obtain ⟨W5, hW5⟩ : ∃ W, (w5.alloc (.cells #[.slice yy1 B.rom.length yy2, .slice yy3 B.ram.length yy4, .int .i64 B.page, .int .i64 B.screen, .bool B.locked] 26)) = W := ⟨_, rfl⟩
  rw [hW5] at K5
  rw [hb9] at K5
  have hl1' : len1 ≤ 1048576 := by omega
  have hwr : IntKind.i64.wrap (192 + r) = 192 + r := by rw [IntKind.wrap_i64]; omega
  have K5d := hid (K5.out _ (Below.refl _ _).drew)
  have v5 := (K5.out _ (Below.refl _ _)).1.cell
  go_upto_region 7 with fail
  clear hW5 hb9
  go_cut [11] (fun c wx => c = .int .i64 0 ∧ ∃ zz1 zz2 zz3 zz4, Blk wx b9 #[.slice zz1 C.rom.length zz2, .slice zz3 C.ram.length zz4, .int .i64 C.page, .int .i64 C.screen, .bool C.locked] ∧ MemR wx (memV (.slice zz1 C.rom.length zz2) (.slice zz3 C.ram.length zz4) C.page C.screen C.locked) C ∧ Below w.heap.size w wx)
  case first =>
    go_region_with (first | (go_at_call 6; refine (at_val a1 len1 _ 2 64 _ _ (hC.out _ K5d.out.2.2.1).1 hl1' (by decide) (by decide)).mono ?_; rintro e w6 ⟨rfl, hb6⟩; rw [(hC.out _ K5d.out.2.2.1).2, hr.out]; have K6 := hid (fun (W' : World) (hb : Below w6.heap.size w6 W') => K5.out W' (new_trans ((Below.refl W5.heap.size W5).drew) (new_trans hb6 hb))); have v6 := (K6.out _ (Below.refl _ _)).1.cell; clear hb6) | (go_at_call 7; (try rw [hwr]); refine (poke_impl _ B (192 + r) 77 _ (K6.out _ (Below.refl _ _)).2.1 fB.out).mono ?_; rintro e w7 ⟨u7, rfl, hm7, hb7⟩; rw [gB.out.2] at hm7; rw [gB.out.1]; obtain ⟨zz1, zz2, zz3, zz4, rfl, _, _⟩ := hm7.reads.form; have q7 := (K6.out _ hb7).1; have v7 := q7.cell; have f7 := q7.frozen; have hl7 := (K6.out _ (Below.refl _ _)).2.2.2; have hbw7 := hid (K6.out _ hb7).2.2.1; replace q7 := hid q7; replace hm7 := hid hm7; have hN6 := (K6.out _ (Below.refl _ _)).2.2.1.size; clear hb7))
    all_goals
      go_wp2_with fail
      go_meet
      exact ⟨rfl, _, _, _, _, set5_blk q7.out _ _ _ _ _, (hm7.out.kept (fun b h0 h1 => set5_heap _ (by omega) _ _ _ _ _)).reads, set5_below hbw7.out hNb _ _ _ _ _⟩
  case rest =>
  obtain ⟨rfl, zz1, zz2, zz3, zz4, q8, m8, hb8⟩ := hcut
  have v8 := q8.cell
  replace m8 := hid m8
  replace hb8 := hid hb8
  clear K5 K5d v5 q8
  -- paged away
  go_wp2_with fail
  refine (page_impl _ C ((q : Int) + 8) _ m8.out fC.out).mono ?_
  rintro e w9 ⟨u9, rfl, hm9, hb9'⟩
  rw [gC.out.2] at hm9
  rw [gC.out.1]
  have m9 := hid hm9.reads
  obtain ⟨dd1, dd2, dd3, dd4, rfl, _, _⟩ := hm9.reads.form
  rw [hDsc.out] at m9 ⊢
  have K9 : Hid (∀ W', Below (w9.alloc (.cells #[.slice dd1 D.rom.length dd2, .slice dd3 D.ram.length dd4, .int .i64 D.page, .int .i64 3, .bool D.locked] 26)).heap.size (w9.alloc (.cells #[.slice dd1 D.rom.length dd2, .slice dd3 D.ram.length dd4, .int .i64 D.page, .int .i64 3, .bool D.locked] 26)) W' → Blk W' w9.heap.size #[.slice dd1 D.rom.length dd2, .slice dd3 D.ram.length dd4, .int .i64 D.page, .int .i64 3, .bool D.locked] ∧ MemR W' (memV (.slice dd1 D.rom.length dd2) (.slice dd3 D.ram.length dd4) D.page 3 D.locked) D ∧ Below w.heap.size w W' ∧ w9.heap.size < W'.heap.size) := by
    intro W' hb
    have ha : Below w9.heap.size w9 (w9.alloc (.cells #[.slice dd1 D.rom.length dd2, .slice dd3 D.ram.length dd4, .int .i64 D.page, .int .i64 3, .bool D.locked] 26)) := (Below.refl _ _).alloc (Nat.le_refl _) _
    have hz := hb.size
    rw [World.size_alloc] at hz
    exact ⟨(Blk.new w9 _ _).below hb (by simp), (m9.out.below ha).below hb, new_trans (new_trans (new_trans hb8.out hb9') ha) hb, by omega⟩
  clear hm9 hb9' m8 hb8 v8 m9
  have v9 := (K9.out _ (Below.refl _ _)).1.cell
  -- and back, locked
  go_wp2_with fail
  refine (page_impl _ D ((p : Int) + 32) _ (K9.out _ (Below.refl _ _)).2.1 fD.out).mono ?_
  rintro e w10 ⟨u10, rfl, hm10, hb10⟩
  rw [gD.out.2] at hm10
  rw [gD.out.1]
  have m10 := hid hm10.reads
  obtain ⟨ee1, ee2, ee3, ee4, rfl, _, _⟩ := hm10.reads.form
  rw [hEsc.out, hElk.out] at m10 ⊢
  have K10 : Hid (∀ W', Below (w10.alloc (.cells #[.slice ee1 E.rom.length ee2, .slice ee3 E.ram.length ee4, .int .i64 E.page, .int .i64 1, .bool true] 26)).heap.size (w10.alloc (.cells #[.slice ee1 E.rom.length ee2, .slice ee3 E.ram.length ee4, .int .i64 E.page, .int .i64 1, .bool true] 26)) W' → (Blk W' w9.heap.size #[.slice dd1 D.rom.length dd2, .slice dd3 D.ram.length dd4, .int .i64 D.page, .int .i64 3, .bool D.locked] ∧ MemR W' (memV (.slice dd1 D.rom.length dd2) (.slice dd3 D.ram.length dd4) D.page 3 D.locked) D ∧ Below w.heap.size w W' ∧ w9.heap.size < W'.heap.size) ∧ Blk W' w10.heap.size #[.slice ee1 E.rom.length ee2, .slice ee3 E.ram.length ee4, .int .i64 E.page, .int .i64 1, .bool true] ∧ MemR W' (memV (.slice ee1 E.rom.length ee2) (.slice ee3 E.ram.length ee4) E.page 1 true) E ∧ w10.heap.size < W'.heap.size) := by
    intro W' hb
    have ha : Below w10.heap.size w10 (w10.alloc (.cells #[.slice ee1 E.rom.length ee2, .slice ee3 E.ram.length ee4, .int .i64 E.page, .int .i64 1, .bool true] 26)) := (Below.refl _ _).alloc (Nat.le_refl _) _
    have hz := hb.size
    rw [World.size_alloc] at hz
    exact ⟨K9.out W' (new_trans (new_trans hb10 ha) hb), (Blk.new w10 _ _).below hb (by simp), (m10.out.below ha).below hb, by omega⟩
  clear hm10 hb10 m10 K9 v9
  obtain ⟨b12, hb12⟩ : ∃ b, w9.heap.size = b := ⟨_, rfl⟩
  obtain ⟨b14, hb14⟩ : ∃ b, w10.heap.size = b := ⟨_, rfl⟩
  obtain ⟨W10, hW10⟩ : ∃ W, (w10.alloc (.cells #[.slice ee1 E.rom.length ee2, .slice ee3 E.ram.length ee4, .int .i64 E.page, .int .i64 1, .bool true] 26)) = W := ⟨_, rfl⟩
  rw [hW10] at K10
  rw [hb12, hb14] at K10
  have K10d := hid (K10.out _ (Below.refl _ _).drew)
  have v10 := (K10.out _ (Below.refl _ _)).2.1.cell
  go_upto_region 10 with fail
  clear hW10 hb12 hb14
  go_cut [16, 17] (fun c d wx => c = .int .i64 77 ∧ d = .int .i64 0 ∧ Below W10.heap.size W10 wx)
  case first =>
    go_region_with (first | (go_at_call 6; refine (at_val a1 len1 _ 2 64 _ _ (hC.out _ K10d.out.1.2.2.1).1 hl1' (by decide) (by decide)).mono ?_; rintro e w11 ⟨rfl, hb11⟩; rw [(hC.out _ K10d.out.1.2.2.1).2, hr.out]; have B11 := hid (new_trans ((Below.refl W10.heap.size W10).drew) hb11); have v11 := (K10.out _ B11.out).2.1.cell; clear hb11) | (go_at_call 13; (try rw [hwr]); refine (peek_impl _ E (192 + r) _ (K10.out _ B11.out).2.2.1 fE.out).mono ?_; rintro e wz ⟨rfl, hbz⟩; rw [gP.out]; have Bz := hid (new_trans B11.out hbz); clear hbz))
    all_goals
      go_wp2_with fail
      go_meet
      exact ⟨rfl, rfl, Bz.out⟩
  case rest =>
  obtain ⟨rfl, rfl, hbc⟩ := hcut
  have K12 := hid (fun (W' : World) (hb : Below wc.heap.size wc W') => K10.out W' (new_trans hbc hb))
  clear hbc K10 K10d v10
  have v12 := (K12.out _ (Below.refl _ _)).2.1.cell
  -- locked
  go_wp2_with fail
  refine (page_impl _ E (q : Int) _ (K12.out _ (Below.refl _ _)).2.2.1 fE.out).mono ?_
  rintro e w13 ⟨u13, rfl, hm13, hb13⟩
  rw [gE.out.2] at hm13
  rw [gE.out.1]
  have m13 := hid hm13.reads
  obtain ⟨ww1, ww2, ww3, ww4, rfl, _, _⟩ := hm13.reads.form
  rw [hEsc.out, hElk.out] at m13 ⊢
  have K13 : Hid (∀ W', Below (w13.alloc (.cells #[.slice ww1 E.rom.length ww2, .slice ww3 E.ram.length ww4, .int .i64 E.page, .int .i64 1, .bool true] 26)).heap.size (w13.alloc (.cells #[.slice ww1 E.rom.length ww2, .slice ww3 E.ram.length ww4, .int .i64 E.page, .int .i64 1, .bool true] 26)) W' → ((Blk W' b12 #[.slice dd1 D.rom.length dd2, .slice dd3 D.ram.length dd4, .int .i64 D.page, .int .i64 3, .bool D.locked] ∧ MemR W' (memV (.slice dd1 D.rom.length dd2) (.slice dd3 D.ram.length dd4) D.page 3 D.locked) D ∧ Below w.heap.size w W' ∧ b12 < W'.heap.size) ∧ Blk W' b14 #[.slice ee1 E.rom.length ee2, .slice ee3 E.ram.length ee4, .int .i64 E.page, .int .i64 1, .bool true] ∧ MemR W' (memV (.slice ee1 E.rom.length ee2) (.slice ee3 E.ram.length ee4) E.page 1 true) E ∧ b14 < W'.heap.size) ∧ Blk W' w13.heap.size #[.slice ww1 E.rom.length ww2, .slice ww3 E.ram.length ww4, .int .i64 E.page, .int .i64 1, .bool true] ∧ MemR W' (memV (.slice ww1 E.rom.length ww2) (.slice ww3 E.ram.length ww4) E.page 1 true) E) := by
    intro W' hb
    have ha : Below w13.heap.size w13 (w13.alloc (.cells #[.slice ww1 E.rom.length ww2, .slice ww3 E.ram.length ww4, .int .i64 E.page, .int .i64 1, .bool true] 26)) := (Below.refl _ _).alloc (Nat.le_refl _) _
    exact ⟨K12.out W' (new_trans (new_trans hb13 ha) hb), (Blk.new w13 _ _).below hb (by simp), (m13.out.below ha).below hb⟩
  clear hm13 hb13 m13 K12 v12
  obtain ⟨b18, hb18⟩ : ∃ b, w13.heap.size = b := ⟨_, rfl⟩
  obtain ⟨W13, hW13⟩ : ∃ W, (w13.alloc (.cells #[.slice ww1 E.rom.length ww2, .slice ww3 E.ram.length ww4, .int .i64 E.page, .int .i64 1, .bool true] 26)) = W := ⟨_, rfl⟩
  rw [hW13] at K13
  rw [hb18] at K13
  have v13 := (K13.out _ (Below.refl _ _)).1.1.1.cell
  go_wp2_with fail
  clear hb18 hW13
  refine (where_impl _ D 200 _ (K13.out _ (Below.refl _ _)).1.1.2.1 fD.out).mono ?_
  rintro e w14 ⟨rfl, hb14'⟩
  rw [gW.out]
  have K14 := hid (fun (W' : World) (hb : Below w14.heap.size w14 W') => K13.out W' (new_trans hb14' hb))
  clear hb14' K13 v13
  have v14 := (K14.out _ (Below.refl _ _)).1.1.1.cell
  have v15 := (K14.out _ (Below.refl _ _)).1.2.1.cell
  have v16 := (K14.out _ (Below.refl _ _)).2.1.cell
  go_wp2_with fail
  refine (same_impl _ _ E E _ (K14.out _ (Below.refl _ _)).2.2 (K14.out _ (Below.refl _ _)).1.2.2.1 fE.out fE.out).mono ?_
  rintro e w15 ⟨rfl, hb15⟩
  rw [gS.out]
  have hfin := hid (K14.out _ hb15).1.1.2.2.1
  clear hb15 K14 v14 v15 v16
  go_wp2
  go_ret
  exact ⟨rfl, hfin.out⟩

set_option maxRecDepth 100000 in
theorem lifted (os : Os) (started : os.Started) (H : Type) (enc : TypeId × Value → H) :
    ReturnsInHanded {} Try.checked os 4 .any (Rows.fnPagingSpec.pre6 enc Try.prog Try.f4 Rows.fnPagingRow.domain false) (Rows.fnPagingSpec.post enc Try.prog Try.f4 false true false false) := by
  refine returnsInHanded_of_change (C := Try.checked) own started (by kernel_rfl) Try.func4
    (ChangeSpec.witness6 (enc := enc) (C := Try.checked) false ⟨#[], #[.slice none 0 0, .slice none 0 0], []⟩ 8 (by kernel_rfl) (by kernel_rfl) (by kernel_rfl) (by kernel_rfl)) ?_
  intro W base args ds gs before hval0 hW hcnd _
  have hval : ∀ (j : Nat) t v, Try.f4.params[j]? = some t → args[j]? = some v → Value.okWide Try.prog W .any base t v := hval0
  have hW' := hW
  obtain ⟨p, q, hA0, hV, rfl, hfz, hnd⟩ := hW
  have hA : DataW.TrodAll enc Try.prog W 0 (fun _ => true) true Try.f4.params.toList args.toList ds p := hA0
  rw [Try.params4] at hA hval
  obtain ⟨v0, vs0, d0, ds0, p0, q0, hargs, rfl, rfl, h0, r0⟩ := trodAll_cons hA
  obtain ⟨v1, vs1, d1, ds1, p1, q1, rfl, rfl, rfl, h1, r1⟩ := trodAll_cons r0
  obtain ⟨rfl, rfl, rfl⟩ := trodAll_nil r1
  obtain rfl : args = #[v0, v1] := by cases args; simp_all
  obtain ⟨rfl, rfl⟩ := trodVars_none hV
  obtain ⟨a0, len0, cap0, rfl⟩ := okWide_slice Try.underlying22 (hval 0 22 v0 rfl rfl)
  have k0 := h0
  have lt0 : ∀ x ∈ p0, x.block < W.heap.size := by obtain ⟨m, hm⟩ := k0; exact DataW.trod_lt m _ _ _ hm
  obtain ⟨z0, w0⟩ : ∃ zs, IsRow .u8 W a0 len0 cap0 zs := by
    obtain ⟨fuel, hf⟩ := h0
    rcases open_ints Try.underlying22 Try.underlying5 (by kernel_rfl) hf with ⟨hcs, _⟩ | ⟨x, l, c, zs, hcs, _, hl, hm, hz, _, hcell, hwz⟩
    · simp [Value.cells] at hcs
      obtain ⟨rfl, rfl, rfl⟩ := hcs
      exact ⟨[], .inl ⟨rfl, rfl, rfl, rfl⟩⟩
    · simp [Value.cells] at hcs
      obtain ⟨rfl, rfl, rfl⟩ := hcs
      exact ⟨zs, .inr ⟨_, rfl, hl, hm, by simpa using hz, hcell, hwz⟩⟩
  obtain ⟨a1, len1, cap1, rfl⟩ := okWide_slice Try.underlying22 (hval 1 22 v1 rfl rfl)
  have k1 := h1
  have lt1 : ∀ x ∈ p1, x.block < W.heap.size := by obtain ⟨m, hm⟩ := k1; exact DataW.trod_lt m _ _ _ hm
  obtain ⟨z1, w1⟩ : ∃ zs, IsRow .u8 W a1 len1 cap1 zs := by
    obtain ⟨fuel, hf⟩ := h1
    rcases open_ints Try.underlying22 Try.underlying5 (by kernel_rfl) hf with ⟨hcs, _⟩ | ⟨x, l, c, zs, hcs, _, hl, hm, hz, _, hcell, hwz⟩
    · simp [Value.cells] at hcs
      obtain ⟨rfl, rfl, rfl⟩ := hcs
      exact ⟨[], .inl ⟨rfl, rfl, rfl, rfl⟩⟩
    · simp [Value.cells] at hcs
      obtain ⟨rfl, rfl, rfl⟩ := hcs
      exact ⟨zs, .inr ⟨_, rfl, hl, hm, by simpa using hz, hcell, hwz⟩⟩
  clear hA0 hval0
  refine (walk a0 len0 cap0 z0 a1 len1 cap1 z1 W w0 w1).mono fun e W' ⟨he, bel⟩ => ?_
  subst he
  exact ⟨_, rfl, _, _, _, [], _, [], hW', (trodAll_cons_mk (shut_bool Try.underlying4 _) trodAll_mk0), (trodAll_cons_mk (Below.trod laidOut (by kernel_rfl) (of_decide_eq_true (by kernel_rfl)) k0 bel lt0) (trodAll_cons_mk (Below.trod laidOut (by kernel_rfl) (of_decide_eq_true (by kernel_rfl)) k1 bel lt1) trodAll_mk0)), rfl, bel.frame _, fun h => by cases h⟩

theorem said : Rows.FnPagingSaid :=
  OpenClaim.holds_of_wide 4 Try.f4 rfl rfl rfl rfl rfl rfl rfl ⟨rfl, rfl, rfl, rfl, rfl⟩ rfl rfl rfl rfl rfl (by kernel_rfl) Try.func4 (by kernel_rfl)
    (of_decide_eq_true (by kernel_rfl)) (by unfold Func.isWrapper; first | (rw [if_pos (by decide +kernel)]; kernel_rfl) | (rw [if_neg (by decide +kernel)]; exact ⟨rfl, rfl⟩))
    (fun os started H enc _ => lifted os started H enc)
end Go.Proofs.Ytpdngjjbhcfplab.fnPaging
namespace Go.Proofs.Ytpdngjjbhcfplab
theorem fnPaging_holds : Rows.FnPagingSaid := fnPaging.said
#print axioms fnPaging_holds
end Go.Proofs.Ytpdngjjbhcfplab
