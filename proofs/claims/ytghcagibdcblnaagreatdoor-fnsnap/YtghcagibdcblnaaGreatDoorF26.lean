/- bytes.Repeat of one byte: the library's own text is walked. -/
import Derived.Test.YtghcagibdcblnaaGreatDoorF03
import Derived.Lib.MakeNoZero
import Derived.Lib.SlBuf
import Derived.Laws.Externs
import Derived.WalkKit
import Derived.KernelRfl
import Derived.Deep.QuietTactic
import Derived.BigQuiet
namespace Go.Proofs.YtghcagibdcblnaaGreatDoor
open Go.ChangeShapes Go.WideShapes Go.ChangeAt Go.RowKit
set_option linter.unusedVariables false
set_option linter.unusedSimpArgs false

/-- a row that is being filled with one byte -/
structure Rp (w W : World) (g n bp : Nat) (b : Int) : Prop where
  bel : Below w.heap.size w W
  far : w.heap.size ≤ g
  there : ∀ j, j < n → (W.cell? ⟨g, j, none⟩).isSome = true
  free : ∀ j, j < n → W.frozen? ⟨g, j, none⟩ = false
  holds : ∀ j, j < bp → W.cell? ⟨g, j, none⟩ = some (.int .u8 b)
theorem Rp.step {w W : World} {g n bp : Nat} {b : Int} (h : Rp w W g n bp b) {k : Nat} (hk : bp + k ≤ n) : Rp w (W.setCells g bp (List.replicate k (.int .u8 b))) g n (bp + k) b := by
  have hin := World.cell?_setCells_in g (List.replicate k (Value.int .u8 b)) bp W (fun j hj => by rw [List.length_replicate] at hj; exact h.there _ (by omega))
  have hout := World.cell?_setCells_out g (List.replicate k (Value.int .u8 b)) bp W
  refine ⟨Lib.below_setCells g h.far _ _ h.bel, h.far, fun j hj => ?_, fun j hj => ?_, fun j hj => ?_⟩
  · by_cases h1 : bp ≤ j ∧ j < bp + k
    · obtain ⟨d, rfl⟩ : ∃ d, j = bp + d := ⟨j - bp, by omega⟩
      rw [hin d (by rw [List.length_replicate]; omega)]
      rfl
    · rw [hout ⟨g, j, none⟩ (fun _ _ => by rw [List.length_replicate]; show j < _ ∨ _ ≤ j; omega)]
      exact h.there j hj
  · rw [World.frozen?_setCells]
    exact h.free j hj
  · by_cases h1 : j < bp
    · rw [hout ⟨g, j, none⟩ (fun _ _ => Or.inl h1)]
      exact h.holds j h1
    · obtain ⟨d, rfl⟩ : ∃ d, j = bp + d := ⟨j - bp, by omega⟩
      rw [hin d (by rw [List.length_replicate]; omega)]
      simp
theorem Rp.drew {w W : World} {g n bp : Nat} {b : Int} (h : Rp w W g n bp b) : Rp w W.drew g n bp b := ⟨h.bel.drew, h.far, h.there, h.free, h.holds⟩
theorem addr_plain (b o i : Nat) : (⟨b, o, none⟩ : Addr).add i = ⟨b, o + i, none⟩ := by unfold Addr.add; split <;> simp_all
set_option maxRecDepth 100000 in
set_option maxHeartbeats 1000000 in
theorem mul64_one (n : Nat) (w : World) (hn : n ≤ 255) : Calls Tryz.prog 112 #[.int .u64 1, .int .u64 (n : Int)] w fun e w' => e = .returned (.tuple #[.int .u64 0, .int .u64 (n : Int)]) ∧ w' = w := by
  have b1 : bits .and .u64 1 4294967295 = 1 := by decide
  have b0 : bits .and .u64 0 4294967295 = 0 := by decide
  have ba : ∀ m : Fin 256, bits .and .u64 (m.val : Int) 4294967295 = (m.val : Int) := by decide +kernel
  have bn := ba ⟨n, by omega⟩
  dsimp only at bn
  clear ba
  have dn : (n : Int) / 4294967296 = 0 := by omega
  have wn : IntKind.u64.wrap (n : Int) = (n : Int) := by rw [IntKind.wrap_u64]; omega
  go_enter Tryz.func112, Tryz.ntmps112
  go_wp2
  go_ret2
  exact ⟨rfl, rfl⟩
set_option maxRecDepth 100000 in
set_option maxHeartbeats 1000000 in
theorem mul_one (n : Nat) (w : World) (hn : n ≤ 255) : Calls Tryz.prog 108 #[.int .u64 1, .int .u64 (n : Int)] w fun e w' => e = .returned (.tuple #[.int .u64 0, .int .u64 (n : Int)]) ∧ w' = w := by
  have hM := hid (mul64_one n w hn)
  go_enter Tryz.func108, Tryz.ntmps108
  go_wp2_with fail
  refine hM.out.mono ?_
  rintro e w1 ⟨rfl, hww⟩
  obtain rfl := hww.symm
  go_wp2
  go_ret2
  exact ⟨rfl, rfl⟩
theorem infoB8 : (Tryz.prog.info? 5).map (·.size) = some 1 := by kernel_rfl
set_option maxRecDepth 100000 in
set_option maxHeartbeats 2000000 in
theorem repeat_impl (a : Nat) (b : Int) (n : Nat) (w : World) (hb : Blk w a #[.int .u8 b]) (hn : n ≤ 255) : Calls Tryz.prog 103 #[.slice (some ⟨a, 0, none⟩) 1 1, .int .i64 (n : Int)] w fun e w' => ∃ g, e = .returned (.slice (some ⟨g, 0, none⟩) n n) ∧ Rp w w' g n n b := by
  rcases Nat.eq_zero_or_pos n with rfl | h0
  · go_enter Tryz.func103, Tryz.ntmps103
    go_wp2
    refine bodyPost_ret (v := .slice (some ⟨w.heap.size, 0, none⟩) 0 0) (by simp [results, Tryz.results103]) rfl ⟨w.heap.size, rfl, (Below.refl _ _).alloc (Nat.le_refl _) _, Nat.le_refl _, fun j hj => by omega, fun j hj => by omega, fun j hj => by omega⟩
  have hM := hid (mul_one n w hn)
  have hn0 : ((n : Int) == 0) = false := by rw [beq_eq_false_iff_ne]; omega
  have wn : IntKind.u64.wrap (n : Int) = (n : Int) := by rw [IntKind.wrap_u64]; omega
  obtain ⟨cs, hrunM, hle, _⟩ := Lib.run_makeNoZero (P := Tryz.prog) w #[3] 22 5 Tryz.underlying22 n (by omega)
  have hcall : (callFunc 109 #[.int .i64 (n : Int)]).run Tryz.prog w = .ok (.value (.slice (some ⟨w.heap.size, 0, none⟩) n cs.size)) ((w.alloc (.cells cs 5)).drewN 2) := by
    rw [run_callFunc_extern Tryz.func109 (by kernel_rfl) (by kernel_rfl) (by kernel_rfl) (e := Extern.BytealgMakeNoZero.makeNoZero #[3] #[22]) (by kernel_rfl), hrunM]
    rfl
  clear hrunM
  have hR0 : Rp w ((w.alloc (.cells cs 5)).drewN 2) w.heap.size n 0 b := by
    have B0 := Lib.Buf.start w cs 5 n 2 hle
    exact ⟨B0.below, Nat.le_refl _, B0.there, B0.free, fun j hj => by omega⟩
  have hR1 := hid (hR0.step (k := 1) (by omega))
  have hr1 : (Builtin.copy_ #[22, 22] 3 #[.slice (some ⟨w.heap.size, 0, none⟩) n n, .slice (some ⟨a, 0, none⟩) 1 1]).run Tryz.prog ((w.alloc (.cells cs 5)).drewN 2) = .ok (.int .i64 1) (((w.alloc (.cells cs 5)).drewN 2).setCells w.heap.size 0 (List.replicate 1 (.int .u8 b))) := by
    refine run_copy_cells (P := Tryz.prog) _ 22 22 3 5 w.heap.size 0 n n ⟨a, 0, none⟩ 1 1 (List.replicate 1 (.int .u8 b)) Tryz.underlying22 infoB8 (by rw [List.length_replicate]; exact (Nat.min_eq_left h0).symm) (fun j v hj => ?_) (fun j hj => by rw [List.length_replicate] at hj; exact hR0.there _ (by omega)) (fun j hj => by rw [List.length_replicate] at hj; exact hR0.free _ (by omega)) (fun v hv => by rw [List.eq_of_mem_replicate hv]; rfl)
    rw [List.getElem?_replicate] at hj
    split at hj
    · obtain rfl := Option.some.inj hj
      obtain rfl : j = 0 := by omega
      rw [addr_plain, hR0.bel.cell hb.lt, hb.cell]
      rfl
    · cases hj
  rw [Nat.zero_add] at hR1
  generalize ((w.alloc (.cells cs 5)).drewN 2).setCells w.heap.size 0 (List.replicate 1 (.int .u8 b)) = W1 at *
  clear hR0
  have d1 : decide ((n : Int) < 0) = false := decide_eq_false (by omega)
  have d2 : decide ((9223372036854775807 : Int) < (n : Int)) = false := decide_eq_false (by omega)
  have d3 : decide ((8192 : Int) < (n : Int)) = false := decide_eq_false (by omega)
  have i0 : (0 : Int) ≤ (n : Int) := by omega
  have i1 : (n : Int) ≤ (cs.size : Int) := by omega
  go_enter Tryz.func103, Tryz.ntmps103
  go_wp2_with fail
  refine hM.out.mono ?_
  rintro e w1 ⟨rfl, hww⟩
  obtain rfl := hww.symm
  go_wp2
  clear hcall hr1 i0 i1
  go_loopw [10] (fun bv wr => ∃ bp : Nat, 1 ≤ bp ∧ bp ≤ n ∧ bv = .int .i64 (bp : Int) ∧ Rp w wr w.heap.size n bp b) (fun bv _ => n - (intOf bv).toNat)
  case atStart => exact ⟨1, by omega, by omega, rfl, hR1.out⟩
  case round =>
    obtain ⟨bp, h1, h2, rfl, hR⟩ := hrel
    by_cases hlt : bp < n
    · obtain ⟨k, hk⟩ : ∃ k, min bp (n - bp) = k := ⟨_, rfl⟩
      replace hR := hR.drew
      have hmin : min (bp : Int) (n : Int) = (bp : Int) := by omega
      have hS := hid (hR.step (k := k) (by omega))
      have hr2 : (Builtin.copy_ #[22, 22] 3 #[.slice (some ⟨w.heap.size, bp, none⟩) (n - bp) (n - bp), .slice (some ⟨w.heap.size, 0, none⟩) bp n]).run Tryz.prog wr.drew = .ok (.int .i64 (k : Int)) (wr.drew.setCells w.heap.size bp (List.replicate k (.int .u8 b))) := by
        have := run_copy_cells (P := Tryz.prog) wr.drew 22 22 3 5 w.heap.size bp (n - bp) (n - bp) ⟨w.heap.size, 0, none⟩ bp n (List.replicate k (.int .u8 b)) Tryz.underlying22 infoB8 (by rw [List.length_replicate]; exact hk.symm) (fun j v hj => by
          rw [List.getElem?_replicate] at hj
          split at hj
          · obtain rfl := Option.some.inj hj
            rw [addr_plain, Nat.zero_add]
            exact hR.holds j (by omega)
          · cases hj) (fun j hj => by rw [List.length_replicate] at hj; exact hR.there _ (by omega)) (fun j hj => by rw [List.length_replicate] at hj; exact hR.free _ (by omega)) (fun v hv => by rw [List.eq_of_mem_replicate hv]; rfl)
        rw [List.length_replicate] at this
        exact this
      have c1 : ¬ (n : Int) < (bp : Int) := by omega
      have c2 : ¬ n = bp := by omega
      have c3 : ¬ bp = n := by omega
      have hkI : Hid ((bp : Int) + (k : Int) = ((bp + k : Nat) : Int) ∧ bp + k ≤ n ∧ 1 ≤ k) := ⟨by omega, by omega, by omega⟩
      replace hR := hid hR
      generalize wr.drew.setCells w.heap.size bp (List.replicate k (.int .u8 b)) = W2 at *
      clear hk
      have hkw : IntKind.i64.wrap ((bp : Int) + (k : Int)) = (bp : Int) + (k : Int) := by rw [IntKind.wrap_i64]; have := hkI.out; omega
      go_wp2
      go_region
      go_roundw
      case rel => exact ⟨.int .i64 ((bp : Int) + (k : Int)), _, _, _, _, _, _, _, _, _, _, _, _, _, _, _, _, ⟨bp + k, by omega, hkI.out.2.1, by rw [hkI.out.1], hS.out⟩, rfl⟩
      case measure => have := hkI.out; simp [intOf]; omega
    · obtain rfl : bp = n := by omega
      replace hR := hid hR
      go_wp2
      refine bodyPost_ret (v := .slice (some ⟨w.heap.size, 0, none⟩) bp bp) (by simp [results, Tryz.results103]) rfl ⟨w.heap.size, rfl, hR.out⟩
end Go.Proofs.YtghcagibdcblnaaGreatDoor

/- A run: whether it is packed, and how it is told. -/
namespace Go.Proofs.YtghcagibdcblnaaGreatDoor
open Go.ChangeShapes Go.WideShapes Go.ChangeAt Go.RowKit
set_option linter.unusedVariables false
set_option linter.unusedSimpArgs false

abbrev rnA (b : Int) (n : Nat) : Array Value := #[.int .u8 b, .int .i64 (n : Int)]
abbrev rnV (b : Int) (n : Nat) : Value := .agg (rnA b n)
def pkB (b : Int) (n : Nat) : Bool := if b = 237 then decide (2 ≤ n) else decide (5 ≤ n)
def pkL (b : Int) (n : Nat) : List Int := if pkB b n = true then [237, 237, (n : Int), b] else List.replicate n b
/-- a row of bytes that was made since, to be read -/
structure RdB (w W : World) (g : Nat) (L : List Int) : Prop where
  bel : Below w.heap.size w W
  far : w.heap.size ≤ g
  holds : ∀ (j : Nat) (x : Int), L[j]? = some x → W.cell? ⟨g, j, none⟩ = some (.int .u8 x)
theorem Rp.rd {w w1 W : World} {g n : Nat} {b : Int} (h : Rp w1 W g n n b) (hb : Below w.heap.size w w1) : RdB w W g (List.replicate n b) :=
  ⟨hb.trans (h.bel.mono hb.size), Nat.le_trans hb.size h.far, fun j x hx => by
    rw [List.getElem?_replicate] at hx
    split at hx
    · obtain rfl := Option.some.inj hx
      exact h.holds j (by omega)
    · cases hx⟩
set_option maxRecDepth 100000 in
theorem ispacked_impl (b : Int) (n : Nat) (w : World) : Calls Tryz.prog 97 #[rnV b n] w fun e w' => e = .returned (.bool (pkB b n)) ∧ Below w.heap.size w w' := by
  unfold pkB
  by_cases hb : b = 237
  · subst hb
    rw [if_pos rfl]
    have hd : decide ((2 : Int) ≤ (n : Int)) = decide (2 ≤ n) := by
      by_cases h : 2 ≤ n
      · rw [decide_eq_true h, decide_eq_true (by omega)]
      · rw [decide_eq_false h, decide_eq_false (by omega)]
    generalize decide (2 ≤ n) = B at *
    go_enter Tryz.func97, Tryz.ntmps97
    go_wp2
    go_ret
    exact ⟨rfl, (Below.refl _ _).alloc (Nat.le_refl _) _⟩
  · rw [if_neg hb]
    have hb2 : (b == 237) = false := by rw [beq_eq_false_iff_ne]; exact hb
    have hd : decide ((5 : Int) ≤ (n : Int)) = decide (5 ≤ n) := by
      by_cases h : 5 ≤ n
      · rw [decide_eq_true h, decide_eq_true (by omega)]
      · rw [decide_eq_false h, decide_eq_false (by omega)]
    generalize decide (5 ≤ n) = B at *
    clear hb
    go_enter Tryz.func97, Tryz.ntmps97
    go_wp2
    go_ret
    exact ⟨rfl, (Below.refl _ _).alloc (Nat.le_refl _) _⟩
def lnB (b : Int) (n : Nat) : Bool := decide (b = 237 ∧ n = 1)
set_option maxRecDepth 100000 in
theorem islone_impl (b : Int) (n : Nat) (w : World) : Calls Tryz.prog 96 #[rnV b n] w fun e w' => e = .returned (.bool (lnB b n)) ∧ Below w.heap.size w w' := by
  unfold lnB
  by_cases hb : b = 237
  · subst hb
    by_cases hn : n = 1
    · subst hn
      rw [decide_eq_true ⟨rfl, rfl⟩]
      go_enter Tryz.func96, Tryz.ntmps96
      go_wp2
      go_ret
      exact ⟨rfl, (Below.refl _ _).alloc (Nat.le_refl _) _⟩
    · rw [decide_eq_false (fun h => hn h.2)]
      have hn2 : ((n : Int) == 1) = false := by rw [beq_eq_false_iff_ne]; omega
      clear hn
      go_enter Tryz.func96, Tryz.ntmps96
      go_wp2
      go_ret
      exact ⟨rfl, (Below.refl _ _).alloc (Nat.le_refl _) _⟩
  · rw [decide_eq_false (fun h => hb h.1)]
    have hb2 : (b == 237) = false := by rw [beq_eq_false_iff_ne]; exact hb
    clear hb
    go_enter Tryz.func96, Tryz.ntmps96
    go_wp2
    go_ret
    exact ⟨rfl, (Below.refl _ _).alloc (Nat.le_refl _) _⟩
set_option maxRecDepth 100000 in
theorem unpacked_impl (b : Int) (n : Nat) (w : World) (hn : n ≤ 255) : Calls Tryz.prog 92 #[rnV b n] w fun e w' => ∃ g, e = .returned (.slice (some ⟨g, 0, none⟩) n n) ∧ RdB w w' g (List.replicate n b) := by
  have hb1 : Below w.heap.size w (w.alloc (.cells (rnA b n) 126)) := (Below.refl _ _).alloc (Nat.le_refl _) _
  have hR := hid (repeat_impl (w.heap.size + 1) b n ((w.alloc (.cells (rnA b n) 126)).alloc (.cells #[.int .u8 b] 5)) (by
    have := Blk.new (w.alloc (.cells (rnA b n) 126)) #[.int .u8 b] 5
    rwa [World.size_alloc] at this) hn)
  have hb2 := hid (hb1.alloc hb1.size (.cells #[.int .u8 b] 5))
  clear hb1
  go_enter Tryz.func92, Tryz.ntmps92
  go_wp2_with fail
  refine hR.out.mono ?_
  rintro e w1 ⟨g, rfl, h⟩
  replace h := hid h
  go_wp2
  refine bodyPost_ret (v := .slice (some ⟨g, 0, none⟩) n n) (by simp [results, Tryz.results92]) rfl ⟨g, rfl, h.out.rd hb2.out⟩
set_option maxRecDepth 100000 in
theorem packed_impl (b : Int) (n : Nat) (w : World) (hn : n ≤ 255) : Calls Tryz.prog 84 #[rnV b n] w fun e w' => ∃ g m, e = .returned (.slice (some ⟨g, 0, none⟩) m m) ∧ (pkL b n).length = m ∧ RdB w w' g (pkL b n) := by
  have hP := hid (fun W => ispacked_impl b n W)
  have hU := hid (fun W => unpacked_impl b n W hn)
  have hb1 : Below w.heap.size w (w.alloc (.cells (rnA b n) 126)) := (Below.refl _ _).alloc (Nat.le_refl _) _
  have q1 := Blk.new w (rnA b n) 126
  unfold pkL
  cases hp : pkB b n
  · rw [hp] at hP
    rw [if_neg (by simp)]
    go_enter Tryz.func84, Tryz.ntmps84
    go_wp2_with fail
    refine (hP.out _).mono ?_
    rintro e w1 ⟨rfl, hb⟩
    have q2 := q1.below hb q1.lt
    have x0 := q2.cell
    have l0 := q2.lt
    have hb2 := hid (hb1.trans (hb.mono hb1.size))
    clear hb q2 q1 hb1 hP
    go_wp2_with fail
    refine (hU.out _).mono ?_
    rintro e w2 ⟨g, rfl, h⟩
    replace h := hid h
    clear x0 l0
    go_wp2
    refine bodyPost_ret (v := .slice (some ⟨g, 0, none⟩) n n) (by simp [results, Tryz.results84]) rfl ⟨g, n, rfl, by simp, hb2.out.trans (h.out.bel.mono hb2.out.size), Nat.le_trans hb2.out.size h.out.far, h.out.holds⟩
  · rw [hp] at hP
    rw [if_pos rfl]
    have wn : IntKind.u8.wrap (n : Int) = (n : Int) := by rw [IntKind.wrap_u8]; omega
    go_enter Tryz.func84, Tryz.ntmps84
    go_wp2_with fail
    refine (hP.out _).mono ?_
    rintro e w1 ⟨rfl, hb⟩
    have q2 := q1.below hb q1.lt
    have x0 := q2.cell
    have l0 := q2.lt
    have hb2 := hid (hb1.trans (hb.mono hb1.size))
    clear hb q2 q1 hb1 hP hU
    go_wp2
    refine bodyPost_ret (v := .slice (some ⟨w1.heap.size, 0, none⟩) 4 4) (by simp [results, Tryz.results84]) rfl ⟨w1.heap.size, 4, rfl, rfl, hb2.out.alloc hb2.out.size _, hb2.out.size, fun j x hx => ?_⟩
    have q := (Blk.new w1 #[.int .u8 237, .int .u8 237, .int .u8 (n : Int), .int .u8 b] 5).cell j
    have e : (#[Value.int .u8 237, .int .u8 237, .int .u8 (n : Int), .int .u8 b] : Array Value)[j]? = ([237, 237, (n : Int), b] : List Int)[j]?.map (Value.int .u8) := by
      match j with
      | 0 => rfl
      | 1 => rfl
      | 2 => rfl
      | 3 => rfl
      | j + 4 => rfl
    rw [e, hx] at q
    exact q
end Go.Proofs.YtghcagibdcblnaaGreatDoor
