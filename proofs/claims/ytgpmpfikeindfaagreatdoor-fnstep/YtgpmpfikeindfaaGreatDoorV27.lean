/- The program's unit as the processor calls it: the table of calculations, compare, calculate. -/
import Derived.Test.YtgpmpfikeindfaaGreatDoorV23
import Derived.Test.YtgpmpfikeindfaaGreatDoorV10
import Derived.Test.YtgpmpfikeindfaaGreatDoorV25
import Derived.Test.YtgpmpfikeindfaaGreatDoorV26
import Derived.Laws.EntriesVeiled
import Derived.Shelf.Abstract
import Derived.Deep.MidRow
import Derived.Laws.Rows
import Derived.Test.YtgpmpfikeindfaaGreatDoorV11
namespace Go.Proofs.YtgpmpfikeindfaaGreatDoor
open Go.ChangeShapes Go.WideShapes Go.ChangeAt Go.RowKit Go.Shelf
set_option linter.unusedVariables false
set_option linter.unusedSimpArgs false

theorem askN (a b c : Nat) (ha : a < 256) (hb : b < 256) (hc : c < 2) : askB (a : Int) (b : Int) (c : Int) = true := by
  simp [askB, inB]
  omega
theorem add8N (a b c : Nat) (ha : a < 256) (hb : b < 256) (hc : c < 2) : add8V (a : Int) (b : Int) (c : Int) = .tuple #[.int .i64 (addV a b c : Int), .int .i64 (addF a b c : Int), .int .i64 0] := by
  unfold add8V
  rw [if_pos (askN a b c ha hb hc)]
  simp
theorem sub8N (a b c : Nat) (ha : a < 256) (hb : b < 256) (hc : c < 2) : sub8V (a : Int) (b : Int) (c : Int) = .tuple #[.int .i64 (subV a b c : Int), .int .i64 (subF a b c : Int), .int .i64 0] := by
  unfold sub8V
  rw [if_pos (askN a b c ha hb hc)]
  simp
theorem logic8N (o a b : Nat) (ho : o < 3) (ha : a < 256) (hb : b < 256) : logic8V (o : Int) (a : Int) (b : Int) = .tuple #[.int .i64 (logV o a b : Int), .int .i64 (logF o a b : Int), .int .i64 0] := by
  have h := askN a b 0 ha hb (by omega)
  have h2 : inB (o : Int) 0 2 = true := by simp [inB]; omega
  unfold logic8V
  rw [if_pos (by rw [h2]; exact h)]
  simp
abbrev aluT (k a b f : Nat) : Value := .tuple #[.int .i64 (aluV k a b f : Int), .int .i64 (aluF k a b f : Int), .int .i64 0]
abbrev calV : Value := .agg #[.func (.func 142) #[] #[], .func (.func 143) #[] #[], .func (.func 144) #[] #[], .func (.func 145) #[] #[], .func (.func 146) #[] #[], .func (.func 148) #[] #[], .func (.func 149) #[] #[], .func (.func 150) #[] #[]]
theorem calcs_impl (w : World) : Calls Tryz.prog 123 #[] w fun e w' => e = .returned calV ∧ Below w.heap.size w w' := by
  go_enter Tryz.func123, Tryz.ntmps123
  go_wp2
  refine bodyPost_ret (v := calV) (by simp [results, Tryz.results123, go_sem]) rfl ⟨rfl, ?_⟩
  exact (Below.refl _ _).alloc (Nat.le_refl _) _
theorem calc0 (a b f : Nat) (w : World) (hL : Flags w) (ha : a < 256) (hb : b < 256) : Calls Tryz.prog 142 #[.int .i64 (a : Int), .int .i64 (b : Int), .int .i64 ((Nat.land f 1 : Nat) : Int)] w fun e w' => e = .returned (aluT 0 a b f) ∧ Below w.heap.size w w' := by
  have e : aluT 0 a b f = .tuple #[.int .i64 (addV a b 0 : Int), .int .i64 (addF a b 0 : Int), .int .i64 0] := rfl
  rw [e]
  have hA := hid (fun w h => add8_impl (a : Int) (b : Int) 0 w h)
  have e2 : add8V (a : Int) (b : Int) 0 = .tuple #[.int .i64 (addV a b 0 : Int), .int .i64 (addF a b 0 : Int), .int .i64 0] := add8N a b 0 ha hb (by omega)
  rw [e2] at hA
  clear e e2
  generalize addV a b 0 = V at *
  generalize addF a b 0 = F at *
  generalize Nat.land f 1 = C at *
  replace hL := hid hL
  go_enter Tryz.func142, Tryz.ntmps142
  go_wp2_with fail
  refine (hA.out _ hL.out).mono ?_
  rintro e w1 ⟨rfl, hww⟩
  obtain rfl := hww.symm
  go_wp2
  go_ret3
  exact ⟨rfl, Below.refl _ _⟩
theorem calc1 (a b f : Nat) (w : World) (hL : Flags w) (ha : a < 256) (hb : b < 256) : Calls Tryz.prog 143 #[.int .i64 (a : Int), .int .i64 (b : Int), .int .i64 ((Nat.land f 1 : Nat) : Int)] w fun e w' => e = .returned (aluT 1 a b f) ∧ Below w.heap.size w w' := by
  have hc : Nat.land f 1 < 2 := Nat.and_lt_two_pow (n := 1) _ (by decide)
  have e : aluT 1 a b f = add8V (a : Int) (b : Int) ((Nat.land f 1 : Nat) : Int) := (add8N a b (Nat.land f 1) ha hb hc).symm
  rw [e]
  refine (add8_impl _ _ _ w hL).mono ?_
  rintro e w' ⟨rfl, rfl⟩
  exact ⟨rfl, Below.refl _ _⟩
theorem calc2 (a b f : Nat) (w : World) (hL : Flags w) (ha : a < 256) (hb : b < 256) : Calls Tryz.prog 144 #[.int .i64 (a : Int), .int .i64 (b : Int), .int .i64 ((Nat.land f 1 : Nat) : Int)] w fun e w' => e = .returned (aluT 2 a b f) ∧ Below w.heap.size w w' := by
  have e : aluT 2 a b f = .tuple #[.int .i64 (subV a b 0 : Int), .int .i64 (subF a b 0 : Int), .int .i64 0] := rfl
  rw [e]
  have hA := hid (fun w h => sub8_impl (a : Int) (b : Int) 0 w h)
  have e2 : sub8V (a : Int) (b : Int) 0 = .tuple #[.int .i64 (subV a b 0 : Int), .int .i64 (subF a b 0 : Int), .int .i64 0] := sub8N a b 0 ha hb (by omega)
  rw [e2] at hA
  clear e e2
  generalize subV a b 0 = V at *
  generalize subF a b 0 = F at *
  generalize Nat.land f 1 = C at *
  replace hL := hid hL
  go_enter Tryz.func144, Tryz.ntmps144
  go_wp2_with fail
  refine (hA.out _ hL.out).mono ?_
  rintro e w1 ⟨rfl, hww⟩
  obtain rfl := hww.symm
  go_wp2
  go_ret3
  exact ⟨rfl, Below.refl _ _⟩
theorem calc3 (a b f : Nat) (w : World) (hL : Flags w) (ha : a < 256) (hb : b < 256) : Calls Tryz.prog 145 #[.int .i64 (a : Int), .int .i64 (b : Int), .int .i64 ((Nat.land f 1 : Nat) : Int)] w fun e w' => e = .returned (aluT 3 a b f) ∧ Below w.heap.size w w' := by
  have hc : Nat.land f 1 < 2 := Nat.and_lt_two_pow (n := 1) _ (by decide)
  have e : aluT 3 a b f = sub8V (a : Int) (b : Int) ((Nat.land f 1 : Nat) : Int) := (sub8N a b (Nat.land f 1) ha hb hc).symm
  rw [e]
  refine (sub8_impl _ _ _ w hL).mono ?_
  rintro e w' ⟨rfl, rfl⟩
  exact ⟨rfl, Below.refl _ _⟩
theorem calc4 (a b f : Nat) (w : World) (hL : Flags w) (ha : a < 256) (hb : b < 256) : Calls Tryz.prog 146 #[.int .i64 (a : Int), .int .i64 (b : Int), .int .i64 ((Nat.land f 1 : Nat) : Int)] w fun e w' => e = .returned (aluT 4 a b f) ∧ Below w.heap.size w w' := by
  have e : aluT 4 a b f = .tuple #[.int .i64 (logV 0 a b : Int), .int .i64 (logF 0 a b : Int), .int .i64 0] := rfl
  rw [e]
  have hA := hid (fun w h => logic8_impl 0 (a : Int) (b : Int) w h)
  have e2 : logic8V 0 (a : Int) (b : Int) = .tuple #[.int .i64 (logV 0 a b : Int), .int .i64 (logF 0 a b : Int), .int .i64 0] := logic8N 0 a b (by omega) ha hb
  rw [e2] at hA
  clear e e2
  generalize logV 0 a b = V at *
  generalize logF 0 a b = F at *
  generalize Nat.land f 1 = C at *
  replace hL := hid hL
  go_enter Tryz.func146, Tryz.ntmps146
  go_wp2_with fail
  refine (hA.out _ hL.out).mono ?_
  rintro e w1 ⟨rfl, hb1⟩
  replace hb1 := hid hb1
  go_wp2
  go_ret3
  exact ⟨rfl, hb1.out⟩
theorem calc5 (a b f : Nat) (w : World) (hL : Flags w) (ha : a < 256) (hb : b < 256) : Calls Tryz.prog 148 #[.int .i64 (a : Int), .int .i64 (b : Int), .int .i64 ((Nat.land f 1 : Nat) : Int)] w fun e w' => e = .returned (aluT 5 a b f) ∧ Below w.heap.size w w' := by
  have e : aluT 5 a b f = .tuple #[.int .i64 (logV 1 a b : Int), .int .i64 (logF 1 a b : Int), .int .i64 0] := rfl
  rw [e]
  have hA := hid (fun w h => logic8_impl 1 (a : Int) (b : Int) w h)
  have e2 : logic8V 1 (a : Int) (b : Int) = .tuple #[.int .i64 (logV 1 a b : Int), .int .i64 (logF 1 a b : Int), .int .i64 0] := logic8N 1 a b (by omega) ha hb
  rw [e2] at hA
  clear e e2
  generalize logV 1 a b = V at *
  generalize logF 1 a b = F at *
  generalize Nat.land f 1 = C at *
  replace hL := hid hL
  go_enter Tryz.func148, Tryz.ntmps148
  go_wp2_with fail
  refine (hA.out _ hL.out).mono ?_
  rintro e w1 ⟨rfl, hb1⟩
  replace hb1 := hid hb1
  go_wp2
  go_ret3
  exact ⟨rfl, hb1.out⟩
theorem calc6 (a b f : Nat) (w : World) (hL : Flags w) (ha : a < 256) (hb : b < 256) : Calls Tryz.prog 149 #[.int .i64 (a : Int), .int .i64 (b : Int), .int .i64 ((Nat.land f 1 : Nat) : Int)] w fun e w' => e = .returned (aluT 6 a b f) ∧ Below w.heap.size w w' := by
  have e : aluT 6 a b f = .tuple #[.int .i64 (logV 2 a b : Int), .int .i64 (logF 2 a b : Int), .int .i64 0] := rfl
  rw [e]
  have hA := hid (fun w h => logic8_impl 2 (a : Int) (b : Int) w h)
  have e2 : logic8V 2 (a : Int) (b : Int) = .tuple #[.int .i64 (logV 2 a b : Int), .int .i64 (logF 2 a b : Int), .int .i64 0] := logic8N 2 a b (by omega) ha hb
  rw [e2] at hA
  clear e e2
  generalize logV 2 a b = V at *
  generalize logF 2 a b = F at *
  generalize Nat.land f 1 = C at *
  replace hL := hid hL
  go_enter Tryz.func149, Tryz.ntmps149
  go_wp2_with fail
  refine (hA.out _ hL.out).mono ?_
  rintro e w1 ⟨rfl, hb1⟩
  replace hb1 := hid hb1
  go_wp2
  go_ret3
  exact ⟨rfl, hb1.out⟩
theorem calc7 (a b f : Nat) (w : World) (hL : Flags w) (ha : a < 256) (hb : b < 256) : Calls Tryz.prog 150 #[.int .i64 (a : Int), .int .i64 (b : Int), .int .i64 ((Nat.land f 1 : Nat) : Int)] w fun e w' => e = .returned (aluT 7 a b f) ∧ Below w.heap.size w w' := by
  have sF := subF_lt a b 0
  have hn40 := andNot40 (subF a b 0) sF
  have hl215 : Nat.land (subF a b 0) 215 < 2 ^ 8 := Nat.and_lt_two_pow (n := 8) _ (by decide)
  have r40 : bits .and .i64 (b : Int) 40 = ((Nat.land b 40 : Nat) : Int) := bAnd b 40 (by omega) (by omega)
  have hb40 : Nat.land b 40 < 2 ^ 8 := Nat.and_lt_two_pow (n := 8) _ (by decide)
  have hor := bOr (Nat.land (subF a b 0) 215) (Nat.land b 40) (by omega) (by omega)
  have e : aluT 7 a b f = .tuple #[.int .i64 (a : Int), .int .i64 ((Nat.lor (Nat.land (subF a b 0) 215) (Nat.land b 40) : Nat) : Int), .int .i64 0] := rfl
  rw [e]
  clear e
  generalize hG : Nat.lor (Nat.land (subF a b 0) 215) (Nat.land b 40) = F at *
  clear hG
  generalize Nat.land (subF a b 0) 215 = F1 at *
  generalize Nat.land b 40 = B4 at *
  have hA := hid (fun w h => sub8_impl (a : Int) (b : Int) 0 w h)
  have e2 : sub8V (a : Int) (b : Int) 0 = .tuple #[.int .i64 (subV a b 0 : Int), .int .i64 (subF a b 0 : Int), .int .i64 0] := sub8N a b 0 ha hb (by omega)
  rw [e2] at hA
  clear e2
  generalize subF a b 0 = SF at *
  generalize subV a b 0 = SV at *
  generalize Nat.land f 1 = C at *
  replace hL := hid hL
  go_enter Tryz.func150, Tryz.ntmps150
  go_wp2_with fail
  refine (hA.out _ hL.out).mono ?_
  rintro e w1 ⟨rfl, hww⟩
  obtain rfl := hww.symm
  go_wp2
  go_ret3
  exact ⟨rfl, Below.refl _ _⟩
/-- the function that the table has for a kind, and what it answers -/
theorem calcK (op : Nat) (ho : op < 8) : ∃ K : Nat, (∀ w : World, (Instr.index 124 calV (.int .i64 (op : Int))).run Tryz.prog w = .ok (.func (.func K) #[] #[]) w) ∧ (∀ args w, (callFunc K args).run Tryz.prog w = .ok (.enter K args) w) ∧
    ∀ (a b f : Nat) (w : World), Flags w → a < 256 → b < 256 → Calls Tryz.prog K #[.int .i64 (a : Int), .int .i64 (b : Int), .int .i64 ((Nat.land f 1 : Nat) : Int)] w fun e w' => e = .returned (aluT op a b f) ∧ Below w.heap.size w w' := by
  have ho8 : op = 0 ∨ op = 1 ∨ op = 2 ∨ op = 3 ∨ op = 4 ∨ op = 5 ∨ op = 6 ∨ op = 7 := by omega
  rcases ho8 with rfl | rfl | rfl | rfl | rfl | rfl | rfl | rfl
  · exact ⟨142, fun _ => by kernel_rfl, enters_of Tryz.func142 (by kernel_rfl) rfl, calc0⟩
  · exact ⟨143, fun _ => by kernel_rfl, enters_of Tryz.func143 (by kernel_rfl) rfl, calc1⟩
  · exact ⟨144, fun _ => by kernel_rfl, enters_of Tryz.func144 (by kernel_rfl) rfl, calc2⟩
  · exact ⟨145, fun _ => by kernel_rfl, enters_of Tryz.func145 (by kernel_rfl) rfl, calc3⟩
  · exact ⟨146, fun _ => by kernel_rfl, enters_of Tryz.func146 (by kernel_rfl) rfl, calc4⟩
  · exact ⟨148, fun _ => by kernel_rfl, enters_of Tryz.func148 (by kernel_rfl) rfl, calc5⟩
  · exact ⟨149, fun _ => by kernel_rfl, enters_of Tryz.func149 (by kernel_rfl) rfl, calc6⟩
  · exact ⟨150, fun _ => by kernel_rfl, enters_of Tryz.func150 (by kernel_rfl) rfl, calc7⟩
set_option maxRecDepth 100000 in
set_option maxHeartbeats 4000000 in
theorem pcalc (op b : Nat) (p : Par) (z : Kps) (W : World) (x : Mx) (h : At p z W x) (hG : Flags p.w) (ha : x.c.a < 256) (hf : x.c.f < 256) (hb : b < 256) (ho : op < 8) :
    Calls Tryz.prog 75 #[.pointer (some ⟨p.Y, 0, none⟩), .int .i64 (op : Int), .int .i64 (b : Int)] W fun e W' => e = .returned (.tuple #[]) ∧ At p z W' (x.alu op b) := by
  have hS : x.alu op b = { x with c := { x.c with a := aluV op x.c.a b x.c.f, f := aluF op x.c.a b x.c.f } } := rfl
  rw [hS]
  clear hS
  obtain ⟨K, ix, en, hK⟩ := calcK op ho
  have hC := hid (fun W1 (h1 : At p z W1 x) => hK x.c.a b x.c.f W1 (flags_below hG h1.old) ha hb)
  have r2 : bits .and .i64 (x.c.f : Int) 1 = ((Nat.land x.c.f 1 : Nat) : Int) := bAnd x.c.f 1 (by omega) (by omega)
  clear hK
  dsimp only [aluT] at hC
  generalize aluV op x.c.a b x.c.f = V at *
  generalize aluF op x.c.a b x.c.f = F at *
  generalize Nat.land x.c.f 1 = C at *
  have hE : Hid (∀ W1, At p z W1 x → At p z ((W1.setCell ⟨p.Y, 7, none⟩ (.int .i64 ((V : Nat) : Int))).setCell ⟨p.Y, 8, none⟩ (.int .i64 ((F : Nat) : Int))) { x with c := { x.c with a := V, f := F } }) := fun W1 h1 => ((h1.put 7 (.int .i64 (V : Int)) { x.c with a := V } rfl).put 8 (.int .i64 (F : Int)) { x.c with a := V, f := F } rfl)
  have x0 := h.cell
  replace h := hid h
  clear hG
  go_enter Tryz.func75, Tryz.ntmps75
  go_upto_region 0 with fail
  go_region_with (first | (go_at_call 123; refine (calcs_impl _).mono ?_; rintro e w1 ⟨rfl, hb1⟩; have h1 := h.out.drew.below hb1; have x1 := h1.cell; replace h1 := hid h1; clear hb1 x0) | (refine (hC.out _ h1.out).mono ?_; rintro e w2 ⟨rfl, hb2⟩; have h2 := h1.out.below hb2; have x2 := h2.cell; have f2 := h2.frozen; have z2 := h2.lt; replace h2 := hid h2; clear hb2 x1 h1))
  all_goals (try go_wp2)
  all_goals exact bodyPost_end (v := .tuple #[]) (by simp [results, Tryz.results75]) rfl ⟨rfl, hE.out _ h2.out⟩
end Go.Proofs.YtgpmpfikeindfaaGreatDoor

/- The program's table of operations. -/
namespace Go.Proofs.YtgpmpfikeindfaaGreatDoor
open Go.ChangeShapes Go.WideShapes Go.ChangeAt Go.RowKit Go.Shelf
set_option linter.unusedVariables false
set_option linter.unusedSimpArgs false

abbrev opsA : Array Value := #[.func (.func 66) #[] #[], .func (.func 67) #[] #[], .func (.func 70) #[] #[], .func (.func 71) #[] #[], .func (.func 72) #[] #[], .func (.func 74) #[] #[], .func (.func 76) #[] #[], .func (.func 77) #[] #[], .func (.func 80) #[] #[], .func (.func 82) #[] #[], .func (.func 85) #[] #[], .func (.func 87) #[] #[], .func (.func 89) #[] #[], .func (.func 90) #[] #[], .func (.func 91) #[] #[], .func (.func 92) #[] #[], .func (.func 94) #[] #[], .func (.func 96) #[] #[], .func (.func 97) #[] #[], .func (.func 98) #[] #[], .func (.func 99) #[] #[], .func (.func 100) #[] #[], .func (.func 101) #[] #[], .func (.func 66) #[] #[]]
abbrev opsV : Value := .agg opsA
abbrev nil24 : Array Value := #[.nilFunc, .nilFunc, .nilFunc, .nilFunc, .nilFunc, .nilFunc, .nilFunc, .nilFunc, .nilFunc, .nilFunc, .nilFunc, .nilFunc, .nilFunc, .nilFunc, .nilFunc, .nilFunc, .nilFunc, .nilFunc, .nilFunc, .nilFunc, .nilFunc, .nilFunc, .nilFunc, .nilFunc]
theorem there24 (w : World) (t : TypeId) : (w.alloc (.cells nil24 t)).there w.heap.size 0 24 := fun j hj => by
  have q := Blk.new w nil24 t
  rw [Nat.zero_add]
  refine ⟨?_, q.frozen j⟩
  rw [q.cell j]
  exact Option.isSome_iff_exists.2 ⟨_, Array.getElem?_eq_getElem (by simpa using hj)⟩
theorem below_setCells {lo b : Nat} {w : World} (vs : List Value) : ∀ (o : Nat) (W : World), lo ≤ b → Below lo w W → Below lo w (W.setCells b o vs) := by
  induction vs with
  | nil => exact fun o W _ h => h
  | cons u t ih => exact fun o W hb h => ih _ _ hb (h.setCell (p := ⟨b, o, none⟩) hb u)
def setsB : Nat → List Value → Array Value → Array Value
  | _, [], A => A
  | i, u :: t, A => setsB (i + 1) t (A.setIfInBounds i u)
theorem setCells_blk (b : Nat) (l : List Value) : ∀ (W : World) (i : Nat) (A : Array Value), Blk W b A → Blk (W.setCells b i l) b (setsB i l A) := by
  induction l with
  | nil => exact fun _ _ _ h => h
  | cons u t ih => exact fun W i A h => ih _ _ _ (h.set i u)
set_option maxRecDepth 100000 in
theorem opers_impl (w : World) : Calls Tryz.prog 44 #[] w fun e w' => e = .returned opsV ∧ Below w.heap.size w w' := by
  have ht := hid (there24 w 94)
  have hb := hid ((Below.refl w.heap.size w).alloc (Nat.le_refl _) (.cells nil24 94))
  have hQ := hid (Blk.new w nil24 94)
  have hi : (Tryz.prog.info? 94).map (·.size) = some opsA.size := by kernel_rfl
  have h1 : opsA.all (·.oneCell') = true := by simp [Value.oneCell']
  go_enter Tryz.func44, Tryz.ntmps44
  go_upto_region 2 with fail
  obtain ⟨V, hV⟩ : ∃ V, w.alloc (.cells nil24 94) = V := ⟨_, rfl⟩
  rw [hV] at ht hb hQ ⊢
  clear hV
  go_wp2_with (refine wpList_store_mid rfl 94 _ _ rfl w.heap.size 0 opsA rfl rfl ht.out hi h1 ?_)
  have hq := setCells_blk w.heap.size opsA.toList V 0 nil24 hQ.out
  obtain ⟨t, hq⟩ := hq
  rw [show setsB 0 opsA.toList nil24 = opsA from rfl] at hq
  exact bodyPost_ret (v := opsV) (results_cell_row Tryz.results44 _ _ w.heap.size t opsA (0, 0) _ rfl hq Tryz.underlying94 rfl hi) rfl ⟨rfl, below_setCells opsA.toList _ _ (Nat.le_refl _) hb.out⟩
end Go.Proofs.YtgpmpfikeindfaaGreatDoor

/- What the program's processor does: conditions, tests of bits, pushes and pops of registers, a register that is altered. -/
namespace Go.Proofs.YtgpmpfikeindfaaGreatDoor
open Go.ChangeShapes Go.WideShapes Go.ChangeAt Go.RowKit Go.Shelf
set_option linter.unusedVariables false
set_option linter.unusedSimpArgs false

def cdF (k : Nat) : Nat := if k < 2 then 64 else if k < 4 then 1 else if k < 6 then 4 else if k = 6 then 128 else 0
def cdW (k : Nat) : Nat := if k = 1 then 64 else if k = 3 then 1 else if k = 5 then 4 else if k = 6 then 128 else 0
/-- the program's table of conditions, in its block -/
def Conds (w : World) : Prop := ∀ k, k < 8 → w.cell? ⟨2, k * 2, none⟩ = some (.int .i64 (cdF k : Int)) ∧ w.cell? ⟨2, k * 2 + 1, none⟩ = some (.int .i64 (cdW k : Int))
theorem Conds.below {w w' : World} (h : Conds w) (hb : Below w.heap.size w w') : Conds w' := fun k hk => by
  obtain ⟨h0, h1⟩ := h k hk
  have k0 := World.block_lt_of_cell? w _ h0
  refine ⟨?_, ?_⟩
  · rw [hb.cell (p := ⟨2, k * 2, none⟩) k0]; exact h0
  · rw [hb.cell (p := ⟨2, k * 2 + 1, none⟩) k0]; exact h1
theorem hold_cd (f k : Nat) (hk : k < 8) (hf : f < 256) : holdN f k = (((Nat.land f (cdF k) : Nat) : Int) == (cdW k : Int)) := by
  have h : ∀ f, f < 256 → ∀ k, k < 8 → holdN f k = Nat.beq (Nat.land f (cdF k)) (cdW k) := by decide +kernel
  rw [h f hf k hk, Bool.eq_iff_iff]
  simp
  omega
theorem holds_impl (f k : Nat) (w : World) (hC : Conds w) (hf : f < 256) (hk : k < 8) :
    Calls Tryz.prog 131 #[.int .i64 (f : Int), .int .i64 (k : Int)] w fun e w' => e = .returned (.bool (holdN f k)) ∧ Below w.heap.size w w' := by
  obtain ⟨h0, h1⟩ := hC k hk
  have r : bits .and .i64 (f : Int) (cdF k : Int) = ((Nat.land f (cdF k) : Nat) : Int) := bAnd f (cdF k) (by omega) (by unfold cdF; split; omega; split; omega; split; omega; split <;> omega)
  rw [hold_cd f k hk hf]
  generalize Nat.land f (cdF k) = A at *
  generalize cdF k = F at *
  generalize cdW k = X at *
  have k0 := World.block_lt_of_cell? w _ h0
  replace hC := hid hC
  go_enter Tryz.func131, Tryz.ntmps131
  go_wp2
  go_ret
  exact ⟨rfl, (Below.refl _ _).alloc (Nat.le_refl _) _⟩
theorem test8N (o a f : Nat) (ho : o < 8) (ha : a < 256) (hf : f < 256) : test8V (o : Int) (a : Int) (f : Int) = .tuple #[.int .i64 (tstF o a f : Int), .int .i64 0] := by
  have h : askB (a : Int) (f : Int) 0 = true := by simp [askB, inB]; omega
  have h2 : inB (o : Int) 0 7 = true := by simp [inB]; omega
  unfold test8V
  rw [if_pos (by rw [h2]; exact h)]
  simp
set_option maxRecDepth 100000 in
theorem ptest (o v : Nat) (p : Par) (z : Kps) (W : World) (x : Mx) (h : At p z W x) (ho : o < 8) (hv : v < 256) (hf : x.c.f < 256) :
    Calls Tryz.prog 86 #[.pointer (some ⟨p.Y, 0, none⟩), .int .i64 (o : Int), .int .i64 (v : Int)] W fun e W' => e = .returned (.tuple #[]) ∧ At p z W' { x with c := { x.c with f := tstF o v x.c.f } } := by
  have ht := hid (fun w => test8_impl (o : Int) (v : Int) (x.c.f : Int) w)
  rw [test8N o v x.c.f ho hv hf] at ht
  generalize tstF o v x.c.f = F at *
  have x0 := h.cell
  have f0 := h.frozen
  have z0 := h.lt
  have h1 := hid (h.put 8 (.int .i64 (F : Int)) { x.c with f := F } rfl)
  clear h
  go_enter Tryz.func86, Tryz.ntmps86
  go_wp2_with fail
  refine (ht.out _).mono ?_
  rintro e w1 ⟨rfl, hww⟩
  obtain rfl := hww.symm
  go_wp2
  exact bodyPost_end (v := .tuple #[]) (by simp [results, Tryz.results86]) rfl ⟨rfl, h1.out⟩
set_option maxRecDepth 100000 in
theorem ppushed (r : Nat) (p : Par) (hT : Tells p) (z : Kps) (W : World) (x : Mx) (h : At p z W x) (hl : x.cy.length ≤ 1000) (hk : okM x.m = true) (hs : x.c.sp < 256) (hr : r < 8) :
    Calls Tryz.prog 93 #[.pointer (some ⟨p.Y, 0, none⟩), .int .i64 (r : Int)] W fun e W' => e = .returned (.tuple #[]) ∧ At p z W' (x.push (if r = 6 then x.c.f else x.c.reg r)) := by
  have x0 := h.cell
  have hp := hid (fun v => ppush v p hT z W x h hl hk hs)
  replace hT := hid hT
  clear h
  have hr8 : r = 0 ∨ r = 1 ∨ r = 2 ∨ r = 3 ∨ r = 4 ∨ r = 5 ∨ r = 6 ∨ r = 7 := by omega
  clear hr
  rcases hr8 with rfl | rfl | rfl | rfl | rfl | rfl | rfl | rfl
  all_goals
    simp only [Cp.reg, if_true, if_false, reduceIte, Nat.reduceEqDiff]
    go_enter Tryz.func93, Tryz.ntmps93
    go_wp2_with fail
    refine (hp.out _).mono ?_
    rintro e w1 ⟨rfl, h1⟩
    replace h1 := hid h1
    clear x0 hp
    go_wp2
    first | exact bodyPost_end (v := .tuple #[]) (by simp [results, Tryz.results93]) rfl ⟨rfl, h1.out⟩ | exact bodyPost_ret (v := .tuple #[]) (by simp [results, Tryz.results93]) rfl ⟨rfl, h1.out⟩
set_option maxRecDepth 100000 in
set_option maxHeartbeats 2000000 in
theorem ppopped (r : Nat) (p : Par) (hT : Tells p) (z : Kps) (W : World) (x : Mx) (h : At p z W x) (hl : x.cy.length ≤ 1000) (hk : okM x.m = true) (hs : x.c.sp < 256) (hr : r < 8) :
    Calls Tryz.prog 95 #[.pointer (some ⟨p.Y, 0, none⟩), .int .i64 (r : Int)] W fun e W' => e = .returned (.tuple #[]) ∧ At p z W' (if r = 6 then ({ x.popX with c := { x.popX.c with f := x.popV } } : Mx) else { x.popX with c := x.popX.c.put x.popV r }) := by
  have x0 := h.cell
  have hp := hid (fun W1 (h1 : At p z W1 x) => ppop p hT z W1 x h1 hl hk hs)
  replace hT := hid hT
  replace h := hid h
  generalize x.popX = y at *
  generalize x.popV = v at *
  have hr8 : r = 0 ∨ r = 1 ∨ r = 2 ∨ r = 3 ∨ r = 4 ∨ r = 5 ∨ r = 6 ∨ r = 7 := by omega
  clear hr
  rcases hr8 with rfl | rfl | rfl | rfl | rfl | rfl | rfl | rfl
  all_goals
    simp only [Cp.put, if_true, if_false, reduceIte, Nat.reduceEqDiff]
    go_enter Tryz.func95, Tryz.ntmps95
  case inr.inr.inr.inr.inr.inr.inl =>
    go_wp2_with fail
    refine (hp.out _ h.out).mono ?_
    rintro e w1 ⟨rfl, h1⟩
    have x1 := h1.cell
    have f1 := h1.frozen
    have z1 := h1.lt
    have h2 := hid (h1.put 8 (.int .i64 (v : Int)) { y.c with f := v } rfl)
    clear x0 hp h h1
    go_wp2
    exact bodyPost_ret (v := .tuple #[]) (by simp [results, Tryz.results95]) rfl ⟨rfl, h2.out⟩
  all_goals
    go_upto_region 2 with fail
    go_region_with (go_at_call 133; refine (hp.out _ h.out.drew).mono ?_; rintro e w1 ⟨rfl, h1⟩; have x1 := h1.cell; have f1 := h1.frozen; have z1 := h1.lt; replace h1 := hid h1; clear x0 h)
  all_goals (try go_wp2)
  all_goals first | exact bodyPost_end (v := .tuple #[]) (by simp [results, Tryz.results95]) rfl ⟨rfl, h1.out.put _ _ _ rfl⟩
set_option maxRecDepth 100000 in
set_option maxHeartbeats 1000000 in
theorem palter (r K V F : Nat) (p : Par) (hT : Tells p) (z : Kps) (W : World) (x : Mx) (h : At p z W x) (hl : x.cy.length ≤ 900) (hk : okM x.m = true) (hh : x.c.h < 256) (hr : r < 8)
    (en : ∀ args w, (callFunc K args).run Tryz.prog w = .ok (.enter K args) w)
    (hB : ∀ W1, At p z W1 (x.getX r) → Calls Tryz.prog K #[.int .i64 (x.getV r : Int), .int .i64 (x.c.f : Int)] W1 fun e w' => e = .returned (.tuple #[.int .i64 (V : Int), .int .i64 (F : Int), .int .i64 0]) ∧ Below W1.heap.size W1 w') :
    Calls Tryz.prog 78 #[.pointer (some ⟨p.Y, 0, none⟩), .int .i64 (r : Int), .func (.func K) #[] #[]] W fun e W' => e = .returned (.tuple #[]) ∧ At p z W' (({ x.getX r with c := { x.c with f := F } } : Mx).set r V) := by
  have hget := hid (fun W1 (hh1 : At p z W1 x) => pget r p hT z W1 x hh1 (by omega) hk hh hr)
  have hyc := getX_c x r
  have hym := getX_m x r
  have hyl := getX_l x r
  have hput := hid (fun W1 (h1 : At p z W1 ({ x.getX r with c := { x.c with f := F } } : Mx)) => pput r V p hT z W1 _ h1 (by show (x.getX r).cy.length ≤ 1000; omega) (by show okM (x.getX r).m = true; rw [hym]; exact hk) hh hr)
  generalize x.getX r = y at *
  generalize x.getV r = v at *
  have x1 := h.cell
  replace h := hid h
  replace hT := hid hT
  replace hB := hid hB
  go_enter Tryz.func78, Tryz.ntmps78
  go_upto_region 0 with fail
  go_region_with (first | (go_at_call 69; refine (hget.out _ (by first | exact h.out | exact h.out.drew)).mono ?_; rintro e w1 ⟨rfl, h2⟩; have x2 := h2.cell; rw [hyc] at x2; replace h2 := hid h2; clear x1 h) | (refine (hB.out _ h2.out).mono ?_; rintro e w2 ⟨rfl, hb2⟩; have h3 := h2.out.below hb2; have x3 := h3.cell; rw [hyc] at x3; have f3 := h3.frozen; have z3 := h3.lt; replace h3 := hid h3; clear hb2 x2 h2))
  all_goals
    have h4 := hid (h3.out.put 8 (.int .i64 (F : Int)) { x.c with f := F } (by rw [hyc]; rfl))
    go_wp2_with fail
    refine (hput.out _ h4.out).mono ?_
    rintro e w5 ⟨rfl, h5⟩
    replace h5 := hid h5
    clear h3 x3 f3 z3 h4 hput
    go_wp2
    exact bodyPost_end (v := .tuple #[]) (by simp [results, Tryz.results78]) rfl ⟨rfl, h5.out⟩
set_option maxRecDepth 100000 in
set_option maxHeartbeats 1000000 in
theorem palterT (r K V F I : Nat) (p : Par) (hT : Tells p) (z : Kps) (W : World) (x : Mx) (h : At p z W x) (hl : x.cy.length ≤ 900) (hk : okM x.m = true) (hh : x.c.h < 256) (hr : r < 8)
    (en : ∀ args w, (callFunc K args).run Tryz.prog w = .ok (.enter K args) w)
    (hB : ∀ W1, At p z W1 (x.getX r) → Calls Tryz.prog K #[.int .i64 (x.getV r : Int), .int .i64 (x.c.f : Int), .pointer (some ⟨I, 0, none⟩)] W1 fun e w' => e = .returned (.tuple #[.int .i64 (V : Int), .int .i64 (F : Int), .int .i64 0]) ∧ Below W1.heap.size W1 w') :
    Calls Tryz.prog 78 #[.pointer (some ⟨p.Y, 0, none⟩), .int .i64 (r : Int), .func (.func K) #[] #[.pointer (some ⟨I, 0, none⟩)]] W fun e W' => e = .returned (.tuple #[]) ∧ At p z W' (({ x.getX r with c := { x.c with f := F } } : Mx).set r V) := by
  have hget := hid (fun W1 (hh1 : At p z W1 x) => pget r p hT z W1 x hh1 (by omega) hk hh hr)
  have hyc := getX_c x r
  have hym := getX_m x r
  have hyl := getX_l x r
  have hput := hid (fun W1 (h1 : At p z W1 ({ x.getX r with c := { x.c with f := F } } : Mx)) => pput r V p hT z W1 _ h1 (by show (x.getX r).cy.length ≤ 1000; omega) (by show okM (x.getX r).m = true; rw [hym]; exact hk) hh hr)
  generalize x.getX r = y at *
  generalize x.getV r = v at *
  have x1 := h.cell
  replace h := hid h
  replace hT := hid hT
  replace hB := hid hB
  go_enter Tryz.func78, Tryz.ntmps78
  go_upto_region 0 with fail
  go_region_with (first | (go_at_call 69; refine (hget.out _ (by first | exact h.out | exact h.out.drew)).mono ?_; rintro e w1 ⟨rfl, h2⟩; have x2 := h2.cell; rw [hyc] at x2; replace h2 := hid h2; clear x1 h) | (refine (hB.out _ h2.out).mono ?_; rintro e w2 ⟨rfl, hb2⟩; have h3 := h2.out.below hb2; have x3 := h3.cell; rw [hyc] at x3; have f3 := h3.frozen; have z3 := h3.lt; replace h3 := hid h3; clear hb2 x2 h2))
  all_goals
    have h4 := hid (h3.out.put 8 (.int .i64 (F : Int)) { x.c with f := F } (by rw [hyc]; rfl))
    go_wp2_with fail
    refine (hput.out _ h4.out).mono ?_
    rintro e w5 ⟨rfl, h5⟩
    replace h5 := hid h5
    clear h3 x3 f3 z3 h4 hput
    go_wp2
    exact bodyPost_end (v := .tuple #[]) (by simp [results, Tryz.results78]) rfl ⟨rfl, h5.out⟩
end Go.Proofs.YtgpmpfikeindfaaGreatDoor
