/- What the specification's unit answers as it is asked: the codes, and the plain functions of natural numbers where it reckons. -/
import Derived.Test.YtgpmpfikeindfaaGreatDoorAgv
import Derived.Test.YtgpmpfikeindfaaGreatDoorV27
import Derived.Laws.EntriesVeiled
import Derived.Test.YtgpmpfikeindfaaGreatDoorV26
import Derived.Test.YtgpmpfikeindfaaGreatDoorCev
import Derived.Shelf.Abstract
import Derived.Deep.MidRow
import Derived.Laws.Rows
import Derived.Test.YtgpmpfikeindfaaGreatDoorV12
namespace Go.Proofs.YtgpmpfikeindfaaGreatDoor
open Go.ChangeShapes Go.WideShapes Go.ChangeAt Go.RowKit
set_option linter.unusedVariables false
def no3 : Value := .tuple #[.int .i64 0, .int .i64 0, .int .i64 4]
def no2 : Value := .tuple #[.int .i64 0, .int .i64 4]

end Go.Proofs.YtgpmpfikeindfaaGreatDoor

/- What the program's Add8, Sub8, Inc8 and Dec8 answer as they are asked: what the specification's answer. -/
namespace Go.Proofs.YtgpmpfikeindfaaGreatDoor
open Go.ChangeShapes Go.WideShapes Go.ChangeAt Go.RowKit
set_option linter.unusedVariables false
theorem and_not1 : ∀ x : Fin 256, bits .andNot .i64 (Int.ofNat x.val) 1 = Int.ofNat (Nat.sub x.val (Nat.land x.val 1)) := by decide +kernel
theorem andnot_of (x : Nat) (h : x < 256) : bits .andNot .i64 (x : Int) 1 = (Nat.sub x (Nat.land x 1) : Nat) := and_not1 ⟨x, h⟩
/-- the flags of a step by one, the carry being kept -/
def keepC (g f : Nat) : Nat := Nat.lor (Nat.sub g (Nat.land g 1)) (Nat.land f 1)
theorem keep_int (g f : Nat) (hg : g < 256) (hf : f < 256) : bits .or .i64 (bits .andNot .i64 (g : Int) 1) (bits .and .i64 (f : Int) 1) = (keepC g f : Nat) := by
  have h1 : bits .and .i64 (f : Int) 1 = (Nat.land f 1 : Nat) := bAnd f 1 (by omega) (by omega)
  have hc : Nat.land f 1 < 2 ^ 1 := Nat.and_lt_two_pow _ (by decide)
  have hs : Nat.sub g (Nat.land g 1) ≤ g := Nat.sub_le _ _
  rw [h1, andnot_of g hg]
  exact bOr _ _ (by omega) (by omega)
theorem bit01 (f : Nat) : Nat.land f 1 = 0 ∨ Nat.land f 1 = 1 := by
  have hc : Nat.land f 1 < 2 ^ 1 := Nat.and_lt_two_pow _ (by decide)
  omega
def incH (a c : Nat) : Nat := Nat.lor (Nat.lor (Nat.lor c (szN (incV a))) (Nat.mul 16 (btN (Nat.beq (Nat.land a 15) 15)))) (Nat.mul 4 (btN (Nat.beq a 127)))
theorem inc_all : allB 256 (fun a => allB 2 fun c => Nat.beq (Nat.lor (Nat.sub (addF a 1 0) (Nat.land (addF a 1 0) 1)) c) (incH a c)) = true := by decide +kernel
theorem inc_keep (a f : Nat) (ha : a < 256) : keepC (addF a 1 0) f = incF a f := by
  have hc : Nat.land f 1 < 2 ^ 1 := Nat.and_lt_two_pow _ (by decide)
  exact Nat.eq_of_beq_eq_true (allB_at (allB_at inc_all a ha) (Nat.land f 1) hc)
theorem one_add (a f : Nat) (w : World) (ha : a < 256) (hf : f < 256) (hL : Flags w) :
    Calls Tryz.prog 124 #[.func (.func 125) #[] #[], .int .i64 a, .int .i64 f] w fun e w' => e = .returned (.tuple #[.int .i64 (incV a), .int .i64 (incF a f)]) ∧ w' = w := by
  have E : Hid _ := keep_int (addF a 1 0) f (addF_lt _ _ _) hf
  rw [inc_keep a f ha] at E
  go_enter Tryz.func124, Tryz.ntmps124
  go_wp2_with (go_at_call 151; refine (rk_add a 1 0 _ ha (by decide) (by decide) hL).mono ?_; rintro e w' ⟨rfl, rfl⟩)
  rw [E.out]
  go_ret2
  exact ⟨rfl, rfl⟩
def decH (a c : Nat) : Nat := Nat.lor (Nat.lor (Nat.lor (Nat.lor c (szN (decV a))) 2) (Nat.mul 16 (btN (Nat.beq (Nat.land a 15) 0)))) (Nat.mul 4 (btN (Nat.beq a 128)))
theorem dec_all : allB 256 (fun a => allB 2 fun c => Nat.beq (Nat.lor (Nat.lor (Nat.sub (subG a 1 0) (Nat.land (subG a 1 0) 1)) c) 2) (decH a c)) = true := by decide +kernel
theorem dec_keep (a f : Nat) (ha : a < 256) : Nat.lor (keepC (subG a 1 0) f) 2 = decF a f := by
  have hc : Nat.land f 1 < 2 ^ 1 := Nat.and_lt_two_pow _ (by decide)
  exact Nat.eq_of_beq_eq_true (allB_at (allB_at dec_all a ha) (Nat.land f 1) hc)
theorem subV_one (a : Nat) : subV a 1 0 = decV a := by
  rw [subV_mod, show decV a = (a + 255) % 256 from Nat.and_two_pow_sub_one_eq_mod (a + 255) 8]
  omega
theorem keepC_lt (g f : Nat) (hg : g < 256) : keepC g f < 256 := by
  have hc : Nat.land f 1 < 2 ^ 8 := Nat.lt_of_lt_of_le (Nat.and_lt_two_pow (n := 1) _ (by decide)) (by decide)
  have hs : Nat.sub g (Nat.land g 1) ≤ g := Nat.sub_le _ _
  exact Nat.or_lt_two_pow (n := 8) (by omega) hc
theorem one_sub (a f : Nat) (w : World) (ha : a < 256) (hf : f < 256) (hL : Flags w) :
    Calls Tryz.prog 124 #[.func (.func 126) #[] #[], .int .i64 a, .int .i64 f] w fun e w' => e = .returned (.tuple #[.int .i64 (decV a), .int .i64 (keepC (subG a 1 0) f)]) ∧ w' = w := by
  have E : Hid _ := keep_int (subG a 1 0) f (subG_lt _ _ _) hf
  have hv := subV_one a
  go_enter Tryz.func124, Tryz.ntmps124
  go_wp2_with (go_at_call 151; refine (rk_sub a 1 0 _ ha (by decide) (by decide) hL).mono ?_; rintro e w' ⟨rfl, rfl⟩; rw [hv])
  rw [E.out]
  go_ret2
  exact ⟨rfl, rfl⟩
end Go.Proofs.YtgpmpfikeindfaaGreatDoor

/- What the program's TestBit and Logic8 answer as they are asked: what the specification's answer. -/
namespace Go.Proofs.YtgpmpfikeindfaaGreatDoor
open Go.ChangeShapes Go.WideShapes Go.ChangeAt Go.RowKit
set_option linter.unusedVariables false
end Go.Proofs.YtgpmpfikeindfaaGreatDoor

/- What the program's Logic8 answers as it is asked: what the specification's answers; its table of functions is new memory. -/
namespace Go.Proofs.YtgpmpfikeindfaaGreatDoor
open Go.ChangeShapes Go.WideShapes Go.ChangeAt Go.RowKit
set_option linter.unusedVariables false

theorem join_impl (w : World) : Calls Tryz.prog 162 #[] w fun e w' => e = .returned (.agg #[.func (.func 165) #[] #[], .func (.func 166) #[] #[], .func (.func 167) #[] #[]]) ∧ Below w.heap.size w w' := by
  go_enter Tryz.func162, Tryz.ntmps162
  go_wp2
  exact bodyPost_ret (v := .agg #[.func (.func 165) #[] #[], .func (.func 166) #[] #[], .func (.func 167) #[] #[]]) (by simp [results, Tryz.results162, go_sem]) rfl ⟨rfl, (Below.refl _ _).alloc (Nat.le_refl _) _⟩
end Go.Proofs.YtgpmpfikeindfaaGreatDoor

/- The program's unit as the processor calls it: the table of calculations, compare, calculate. -/
namespace Go.Proofs.YtgpmpfikeindfaaGreatDoor
open Go.ChangeShapes Go.WideShapes Go.ChangeAt Go.RowKit Go.Shelf
set_option linter.unusedVariables false
set_option linter.unusedSimpArgs false
abbrev aluT (k a b f : Nat) : Value := .tuple #[.int .i64 (aluV k a b f : Int), .int .i64 (aluF k a b f : Int), .int .i64 0]
abbrev calV : Value := .agg #[.func (.func 142) #[] #[], .func (.func 143) #[] #[], .func (.func 144) #[] #[], .func (.func 145) #[] #[], .func (.func 146) #[] #[], .func (.func 148) #[] #[], .func (.func 149) #[] #[], .func (.func 150) #[] #[]]
theorem calcs_impl (w : World) : Calls Tryz.prog 123 #[] w fun e w' => e = .returned calV ∧ Below w.heap.size w w' := by
  go_enter Tryz.func123, Tryz.ntmps123
  go_wp2
  refine bodyPost_ret (v := calV) (by simp [results, Tryz.results123, go_sem]) rfl ⟨rfl, ?_⟩
  exact (Below.refl _ _).alloc (Nat.le_refl _) _
end Go.Proofs.YtgpmpfikeindfaaGreatDoor

/- The program's table of operations. -/
namespace Go.Proofs.YtgpmpfikeindfaaGreatDoor
open Go.ChangeShapes Go.WideShapes Go.ChangeAt Go.RowKit Go.Shelf
set_option linter.unusedVariables false
set_option linter.unusedSimpArgs false

abbrev opsA : Array Value := #[.func (.func 66) #[] #[], .func (.func 67) #[] #[], .func (.func 70) #[] #[], .func (.func 71) #[] #[], .func (.func 72) #[] #[], .func (.func 74) #[] #[], .func (.func 76) #[] #[], .func (.func 77) #[] #[], .func (.func 80) #[] #[], .func (.func 82) #[] #[], .func (.func 85) #[] #[], .func (.func 87) #[] #[], .func (.func 89) #[] #[], .func (.func 90) #[] #[], .func (.func 91) #[] #[], .func (.func 92) #[] #[], .func (.func 94) #[] #[], .func (.func 96) #[] #[], .func (.func 97) #[] #[], .func (.func 98) #[] #[], .func (.func 99) #[] #[], .func (.func 100) #[] #[], .func (.func 101) #[] #[], .func (.func 66) #[] #[]]
abbrev opsV : Value := .agg opsA
abbrev nil24 : Array Value := #[.nilFunc, .nilFunc, .nilFunc, .nilFunc, .nilFunc, .nilFunc, .nilFunc, .nilFunc, .nilFunc, .nilFunc, .nilFunc, .nilFunc, .nilFunc, .nilFunc, .nilFunc, .nilFunc, .nilFunc, .nilFunc, .nilFunc, .nilFunc, .nilFunc, .nilFunc, .nilFunc, .nilFunc]
theorem there24 (w : World) (t : TypeId) : (w.alloc (.cells nil24 t)).there w.heap.size 0 24 := fun j hj => by
  have q := Blk.new w nil24 t
  rw [Nat.zero_add]
  refine ⟨?_, q.frozen j⟩
  rw [q.cell j]
  exact Option.isSome_iff_exists.2 ⟨_, Array.getElem?_eq_getElem (by simpa using hj)⟩
theorem below_setCells {lo b : Nat} {w : World} (vs : List Value) : ∀ (o : Nat) (W : World), lo ≤ b → Below lo w W → Below lo w (W.setCells b o vs) := by
  induction vs with
  | nil => exact fun o W _ h => h
  | cons u t ih => exact fun o W hb h => ih _ _ hb (h.setCell (p := ⟨b, o, none⟩) hb u)
def setsB : Nat → List Value → Array Value → Array Value
  | _, [], A => A
  | i, u :: t, A => setsB (i + 1) t (A.setIfInBounds i u)
theorem setCells_blk (b : Nat) (l : List Value) : ∀ (W : World) (i : Nat) (A : Array Value), Blk W b A → Blk (W.setCells b i l) b (setsB i l A) := by
  induction l with
  | nil => exact fun _ _ _ h => h
  | cons u t ih => exact fun W i A h => ih _ _ _ (h.set i u)
set_option maxRecDepth 100000 in
theorem opers_impl (w : World) : Calls Tryz.prog 44 #[] w fun e w' => e = .returned opsV ∧ Below w.heap.size w w' := by
  have ht := hid (there24 w 94)
  have hb := hid ((Below.refl w.heap.size w).alloc (Nat.le_refl _) (.cells nil24 94))
  have hQ := hid (Blk.new w nil24 94)
  have hi : (Tryz.prog.info? 94).map (·.size) = some opsA.size := by kernel_rfl
  have h1 : opsA.all (·.oneCell') = true := by simp [Value.oneCell']
  go_enter Tryz.func44, Tryz.ntmps44
  go_upto_region 2 with fail
  obtain ⟨V, hV⟩ : ∃ V, w.alloc (.cells nil24 94) = V := ⟨_, rfl⟩
  rw [hV] at ht hb hQ ⊢
  clear hV
  go_wp2_with (refine wpList_store_mid rfl 94 _ _ rfl w.heap.size 0 opsA rfl rfl ht.out hi h1 ?_)
  have hq := setCells_blk w.heap.size opsA.toList V 0 nil24 hQ.out
  obtain ⟨t, hq⟩ := hq
  rw [show setsB 0 opsA.toList nil24 = opsA from rfl] at hq
  exact bodyPost_ret (v := opsV) (results_cell_row Tryz.results44 _ _ w.heap.size t opsA (0, 0) _ rfl hq Tryz.underlying94 rfl hi) rfl ⟨rfl, below_setCells opsA.toList _ _ (Nat.le_refl _) hb.out⟩
end Go.Proofs.YtgpmpfikeindfaaGreatDoor

/- What the program's processor does: conditions, tests of bits, pushes and pops of registers, a register that is altered. -/
namespace Go.Proofs.YtgpmpfikeindfaaGreatDoor
open Go.ChangeShapes Go.WideShapes Go.ChangeAt Go.RowKit Go.Shelf
set_option linter.unusedVariables false
set_option linter.unusedSimpArgs false

def cdF (k : Nat) : Nat := if k < 2 then 64 else if k < 4 then 1 else if k < 6 then 4 else if k = 6 then 128 else 0
def cdW (k : Nat) : Nat := if k = 1 then 64 else if k = 3 then 1 else if k = 5 then 4 else if k = 6 then 128 else 0
/-- the program's table of conditions, in its block -/
def Conds (w : World) : Prop := ∀ k, k < 8 → w.cell? ⟨2, k * 2, none⟩ = some (.int .i64 (cdF k : Int)) ∧ w.cell? ⟨2, k * 2 + 1, none⟩ = some (.int .i64 (cdW k : Int))
theorem Conds.below {w w' : World} (h : Conds w) (hb : Below w.heap.size w w') : Conds w' := fun k hk => by
  obtain ⟨h0, h1⟩ := h k hk
  have k0 := World.block_lt_of_cell? w _ h0
  refine ⟨?_, ?_⟩
  · rw [hb.cell (p := ⟨2, k * 2, none⟩) k0]; exact h0
  · rw [hb.cell (p := ⟨2, k * 2 + 1, none⟩) k0]; exact h1
theorem hold_cd (f k : Nat) (hk : k < 8) (hf : f < 256) : holdN f k = (((Nat.land f (cdF k) : Nat) : Int) == (cdW k : Int)) := by
  have h : ∀ f, f < 256 → ∀ k, k < 8 → holdN f k = Nat.beq (Nat.land f (cdF k)) (cdW k) := by decide +kernel
  rw [h f hf k hk, Bool.eq_iff_iff]
  simp
  omega
theorem holds_impl (f k : Nat) (w : World) (hC : Conds w) (hf : f < 256) (hk : k < 8) :
    Calls Tryz.prog 131 #[.int .i64 (f : Int), .int .i64 (k : Int)] w fun e w' => e = .returned (.bool (holdN f k)) ∧ Below w.heap.size w w' := by
  obtain ⟨h0, h1⟩ := hC k hk
  have r : bits .and .i64 (f : Int) (cdF k : Int) = ((Nat.land f (cdF k) : Nat) : Int) := bAnd f (cdF k) (by omega) (by unfold cdF; split; omega; split; omega; split; omega; split <;> omega)
  rw [hold_cd f k hk hf]
  generalize Nat.land f (cdF k) = A at *
  generalize cdF k = F at *
  generalize cdW k = X at *
  have k0 := World.block_lt_of_cell? w _ h0
  replace hC := hid hC
  go_enter Tryz.func131, Tryz.ntmps131
  go_wp2
  go_ret
  exact ⟨rfl, (Below.refl _ _).alloc (Nat.le_refl _) _⟩
set_option maxRecDepth 100000 in
theorem ppushed (r : Nat) (p : Par) (hT : Tells p) (z : Kps) (W : World) (x : Mx) (h : At p z W x) (hl : x.cy.length ≤ 1000) (hk : okM x.m = true) (hs : x.c.sp < 256) (hr : r < 8) :
    Calls Tryz.prog 93 #[.pointer (some ⟨p.Y, 0, none⟩), .int .i64 (r : Int)] W fun e W' => e = .returned (.tuple #[]) ∧ At p z W' (x.push (if r = 6 then x.c.f else x.c.reg r)) := by
  have x0 := h.cell
  have hp := hid (fun v => ppush v p hT z W x h hl hk hs)
  replace hT := hid hT
  clear h
  have hr8 : r = 0 ∨ r = 1 ∨ r = 2 ∨ r = 3 ∨ r = 4 ∨ r = 5 ∨ r = 6 ∨ r = 7 := by omega
  clear hr
  rcases hr8 with rfl | rfl | rfl | rfl | rfl | rfl | rfl | rfl
  all_goals
    simp only [Cp.reg, if_true, if_false, reduceIte, Nat.reduceEqDiff]
    go_enter Tryz.func93, Tryz.ntmps93
    go_wp2_with fail
    refine (hp.out _).mono ?_
    rintro e w1 ⟨rfl, h1⟩
    replace h1 := hid h1
    clear x0 hp
    go_wp2
    first | exact bodyPost_end (v := .tuple #[]) (by simp [results, Tryz.results93]) rfl ⟨rfl, h1.out⟩ | exact bodyPost_ret (v := .tuple #[]) (by simp [results, Tryz.results93]) rfl ⟨rfl, h1.out⟩
set_option maxRecDepth 100000 in
set_option maxHeartbeats 2000000 in
theorem ppopped (r : Nat) (p : Par) (hT : Tells p) (z : Kps) (W : World) (x : Mx) (h : At p z W x) (hl : x.cy.length ≤ 1000) (hk : okM x.m = true) (hs : x.c.sp < 256) (hr : r < 8) :
    Calls Tryz.prog 95 #[.pointer (some ⟨p.Y, 0, none⟩), .int .i64 (r : Int)] W fun e W' => e = .returned (.tuple #[]) ∧ At p z W' (if r = 6 then ({ x.popX with c := { x.popX.c with f := x.popV } } : Mx) else { x.popX with c := x.popX.c.put x.popV r }) := by
  have x0 := h.cell
  have hp := hid (fun W1 (h1 : At p z W1 x) => ppop p hT z W1 x h1 hl hk hs)
  replace hT := hid hT
  replace h := hid h
  generalize x.popX = y at *
  generalize x.popV = v at *
  have hr8 : r = 0 ∨ r = 1 ∨ r = 2 ∨ r = 3 ∨ r = 4 ∨ r = 5 ∨ r = 6 ∨ r = 7 := by omega
  clear hr
  rcases hr8 with rfl | rfl | rfl | rfl | rfl | rfl | rfl | rfl
  all_goals
    simp only [Cp.put, if_true, if_false, reduceIte, Nat.reduceEqDiff]
    go_enter Tryz.func95, Tryz.ntmps95
  case inr.inr.inr.inr.inr.inr.inl =>
    go_wp2_with fail
    refine (hp.out _ h.out).mono ?_
    rintro e w1 ⟨rfl, h1⟩
    have x1 := h1.cell
    have f1 := h1.frozen
    have z1 := h1.lt
    have h2 := hid (h1.put 8 (.int .i64 (v : Int)) { y.c with f := v } rfl)
    clear x0 hp h h1
    go_wp2
    exact bodyPost_ret (v := .tuple #[]) (by simp [results, Tryz.results95]) rfl ⟨rfl, h2.out⟩
  all_goals
    go_upto_region 2 with fail
    go_region_with (go_at_call 133; refine (hp.out _ h.out.drew).mono ?_; rintro e w1 ⟨rfl, h1⟩; have x1 := h1.cell; have f1 := h1.frozen; have z1 := h1.lt; replace h1 := hid h1; clear x0 h)
  all_goals (try go_wp2)
  all_goals first | exact bodyPost_end (v := .tuple #[]) (by simp [results, Tryz.results95]) rfl ⟨rfl, h1.out.put _ _ _ rfl⟩
set_option maxRecDepth 100000 in
set_option maxHeartbeats 1000000 in
theorem palter (r K V F : Nat) (p : Par) (hT : Tells p) (z : Kps) (W : World) (x : Mx) (h : At p z W x) (hl : x.cy.length ≤ 900) (hk : okM x.m = true) (hh : x.c.h < 256) (hr : r < 8)
    (en : ∀ args w, (callFunc K args).run Tryz.prog w = .ok (.enter K args) w)
    (hB : ∀ W1, At p z W1 (x.getX r) → Calls Tryz.prog K #[.int .i64 (x.getV r : Int), .int .i64 (x.c.f : Int)] W1 fun e w' => e = .returned (.tuple #[.int .i64 (V : Int), .int .i64 (F : Int), .int .i64 0]) ∧ Below W1.heap.size W1 w') :
    Calls Tryz.prog 78 #[.pointer (some ⟨p.Y, 0, none⟩), .int .i64 (r : Int), .func (.func K) #[] #[]] W fun e W' => e = .returned (.tuple #[]) ∧ At p z W' (({ x.getX r with c := { x.c with f := F } } : Mx).set r V) := by
  have hget := hid (fun W1 (hh1 : At p z W1 x) => pget r p hT z W1 x hh1 (by omega) hk hh hr)
  have hyc := getX_c x r
  have hym := getX_m x r
  have hyl := getX_l x r
  have hput := hid (fun W1 (h1 : At p z W1 ({ x.getX r with c := { x.c with f := F } } : Mx)) => pput r V p hT z W1 _ h1 (by show (x.getX r).cy.length ≤ 1000; omega) (by show okM (x.getX r).m = true; rw [hym]; exact hk) hh hr)
  generalize x.getX r = y at *
  generalize x.getV r = v at *
  have x1 := h.cell
  replace h := hid h
  replace hT := hid hT
  replace hB := hid hB
  go_enter Tryz.func78, Tryz.ntmps78
  go_upto_region 0 with fail
  go_region_with (first | (go_at_call 69; refine (hget.out _ (by first | exact h.out | exact h.out.drew)).mono ?_; rintro e w1 ⟨rfl, h2⟩; have x2 := h2.cell; rw [hyc] at x2; replace h2 := hid h2; clear x1 h) | (refine (hB.out _ h2.out).mono ?_; rintro e w2 ⟨rfl, hb2⟩; have h3 := h2.out.below hb2; have x3 := h3.cell; rw [hyc] at x3; have f3 := h3.frozen; have z3 := h3.lt; replace h3 := hid h3; clear hb2 x2 h2))
  all_goals
    have h4 := hid (h3.out.put 8 (.int .i64 (F : Int)) { x.c with f := F } (by rw [hyc]; rfl))
    go_wp2_with fail
    refine (hput.out _ h4.out).mono ?_
    rintro e w5 ⟨rfl, h5⟩
    replace h5 := hid h5
    clear h3 x3 f3 z3 h4 hput
    go_wp2
    exact bodyPost_end (v := .tuple #[]) (by simp [results, Tryz.results78]) rfl ⟨rfl, h5.out⟩
set_option maxRecDepth 100000 in
set_option maxHeartbeats 1000000 in
theorem palterT (r K V F I : Nat) (p : Par) (hT : Tells p) (z : Kps) (W : World) (x : Mx) (h : At p z W x) (hl : x.cy.length ≤ 900) (hk : okM x.m = true) (hh : x.c.h < 256) (hr : r < 8)
    (en : ∀ args w, (callFunc K args).run Tryz.prog w = .ok (.enter K args) w)
    (hB : ∀ W1, At p z W1 (x.getX r) → Calls Tryz.prog K #[.int .i64 (x.getV r : Int), .int .i64 (x.c.f : Int), .pointer (some ⟨I, 0, none⟩)] W1 fun e w' => e = .returned (.tuple #[.int .i64 (V : Int), .int .i64 (F : Int), .int .i64 0]) ∧ Below W1.heap.size W1 w') :
    Calls Tryz.prog 78 #[.pointer (some ⟨p.Y, 0, none⟩), .int .i64 (r : Int), .func (.func K) #[] #[.pointer (some ⟨I, 0, none⟩)]] W fun e W' => e = .returned (.tuple #[]) ∧ At p z W' (({ x.getX r with c := { x.c with f := F } } : Mx).set r V) := by
  have hget := hid (fun W1 (hh1 : At p z W1 x) => pget r p hT z W1 x hh1 (by omega) hk hh hr)
  have hyc := getX_c x r
  have hym := getX_m x r
  have hyl := getX_l x r
  have hput := hid (fun W1 (h1 : At p z W1 ({ x.getX r with c := { x.c with f := F } } : Mx)) => pput r V p hT z W1 _ h1 (by show (x.getX r).cy.length ≤ 1000; omega) (by show okM (x.getX r).m = true; rw [hym]; exact hk) hh hr)
  generalize x.getX r = y at *
  generalize x.getV r = v at *
  have x1 := h.cell
  replace h := hid h
  replace hT := hid hT
  replace hB := hid hB
  go_enter Tryz.func78, Tryz.ntmps78
  go_upto_region 0 with fail
  go_region_with (first | (go_at_call 69; refine (hget.out _ (by first | exact h.out | exact h.out.drew)).mono ?_; rintro e w1 ⟨rfl, h2⟩; have x2 := h2.cell; rw [hyc] at x2; replace h2 := hid h2; clear x1 h) | (refine (hB.out _ h2.out).mono ?_; rintro e w2 ⟨rfl, hb2⟩; have h3 := h2.out.below hb2; have x3 := h3.cell; rw [hyc] at x3; have f3 := h3.frozen; have z3 := h3.lt; replace h3 := hid h3; clear hb2 x2 h2))
  all_goals
    have h4 := hid (h3.out.put 8 (.int .i64 (F : Int)) { x.c with f := F } (by rw [hyc]; rfl))
    go_wp2_with fail
    refine (hput.out _ h4.out).mono ?_
    rintro e w5 ⟨rfl, h5⟩
    replace h5 := hid h5
    clear h3 x3 f3 z3 h4 hput
    go_wp2
    exact bodyPost_end (v := .tuple #[]) (by simp [results, Tryz.results78]) rfl ⟨rfl, h5.out⟩
end Go.Proofs.YtgpmpfikeindfaaGreatDoor
