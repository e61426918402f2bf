/- What time the program says that an instruction takes. -/
import Derived.Test.YtneagomkohoceaaDoorKbc
import Derived.Test.YtneagomkohoceaaDoorC29
namespace Go.Proofs.YtneagomkohoceaaDoor
open Go.ChangeShapes Go.WideShapes Go.ChangeAt Go.RowKit
set_option linter.unusedVariables false
set_option linter.unusedSimpArgs false

def reachP (o : Int) (pa pb : Bool) : Int :=
  if o = 1 then bitI pa + bitI pb else if o = 2 then bitI pa else if o = 5 ∨ o = 10 then bitI pb else if o = 7 ∨ o = 8 then 2 * bitI pa else if o = 9 then 2 * bitI pb
  else if o = 3 ∨ o = 4 ∨ o = 15 ∨ o = 16 then 1 else if o = 22 then 2 else 0
theorem reach_tab : ∀ k, k < 24 → ∀ pa pb : Bool, 3 * (whenM pa (kdA k) + whenM pb (kdB k)) + kdT k = 3 * reachP (k : Int) pa pb + 4 * bitI (((k : Int) == 17) || ((k : Int) == 18)) := by decide +kernel
theorem reach_bd : ∀ k, k < 24 → ∀ p : Bool, (0 ≤ whenM p (kdA k) ∧ whenM p (kdA k) ≤ 2) ∧ (0 ≤ whenM p (kdB k) ∧ whenM p (kdB k) ≤ 2) ∧ (0 ≤ kdT k ∧ kdT k ≤ 6) := by decide +kernel
theorem timeK (k : Nat) (hk : k < 24) (a b l : Int) : timeI (k : Int) a b l = 4 + 3 * (l - 1 + whenM (a == 6) (kdA k) + whenM (b == 6) (kdB k)) + kdT k := by
  have h := reach_tab k hk (a == 6) (b == 6)
  have e : reachI (k : Int) a b = reachP (k : Int) (a == 6) (b == 6) := rfl
  unfold timeI
  rw [e]
  omega
set_option maxRecDepth 100000 in
theorem time_impl (o a b n l : Int) (w : World) (hK : Kinds w) :
    Calls Tryd.prog 18 #[insV o a b n l] w fun e w' => e = .returned (time2 o a b n l) ∧ Below w.heap.size w w' := by
  have hB : Hid (∀ ob, Below w.heap.size w (w.alloc ob)) := fun ob => (Below.refl _ _).alloc (Nat.le_refl _) _
  have hb0 := hid (hB.out (.cells (insA o a b n l) 24))
  have hq0 := hid (Blk.new w (insA o a b n l) 24)
  have hk0 := hid (hK.below hb0.out)
  clear hK hB
  cases hok : okI o a b n l
  · have e : time2 o a b n l = .tuple #[.int .i64 0, .int .i64 1] := by unfold time2; rw [hok]; rfl
    rw [e]
    clear e
    go_enter Tryd.func18, Tryd.ntmps18
    go_wp2_with fail
    refine (insok_impl _ _ _ _ _ _ hk0.out).mono ?_
    rintro e w1 ⟨rfl, hb⟩
    rw [hok]
    have hb1 := hid (new_trans hb0.out hb)
    clear hb hb0 hq0 hk0
    go_wp2
    go_ret2
    exact ⟨rfl, hb1.out⟩
  have e : time2 o a b n l = .tuple #[.int .i64 (timeI o a b l), .int .i64 0] := by unfold time2; rw [hok]; rfl
  rw [e]
  clear e
  have hbo := okI_bd hok
  obtain ⟨k, rfl⟩ : ∃ k : Nat, o = (k : Int) := ⟨o.toNat, by omega⟩
  have hk : k < 24 := by omega
  have hl := hbo.2.2.2.2
  rw [timeK k hk]
  obtain ⟨⟨b1, _⟩⟩ : Nonempty ((0 ≤ whenM (a == 6) (kdA k) ∧ whenM (a == 6) (kdA k) ≤ 2) ∧ True) := ⟨(reach_bd k hk _).1, trivial⟩
  have b2 := (reach_bd k hk (b == 6)).2.1
  have b3 := (reach_bd k hk (b == 6)).2.2
  obtain ⟨pa, hpa⟩ : ∃ x, (a == 6) = x := ⟨_, rfl⟩
  obtain ⟨pb, hpb⟩ : ∃ x, (b == 6) = x := ⟨_, rfl⟩
  rw [hpa] at b1
  rw [hpb] at b2
  rw [hpa, hpb]
  obtain ⟨xa, hxa⟩ : ∃ x, whenM pa (kdA k) = x := ⟨_, rfl⟩
  obtain ⟨xb, hxb⟩ : ∃ x, whenM pb (kdB k) = x := ⟨_, rfl⟩
  rw [hxa] at b1 ⊢
  rw [hxb] at b2 ⊢
  obtain ⟨t, ht⟩ : ∃ x, kdT k = x := ⟨_, rfl⟩
  rw [ht] at b3 ⊢
  replace hxa := hid hxa
  replace hxb := hid hxb
  go_enter Tryd.func18, Tryd.ntmps18
  go_wp2_with fail
  refine (insok_impl _ _ _ _ _ _ hk0.out).mono ?_
  rintro e w1 ⟨rfl, hb⟩
  rw [hok]
  have hb1 := hid (new_trans hb0.out hb)
  have hq1 := hid (hq0.out.below hb hq0.out.lt)
  have hk1 := hid (hk0.out.below hb)
  clear hb hb0 hq0 hk0 hok hbo
  have x1 := hq1.out.cell
  have z1 := hq1.out.lt
  obtain ⟨y0, y1, y2, y3, y4⟩ := hk1.out k hk
  rw [ht] at y4
  go_wp2_with (go_at_call 32; refine (whenK_impl _ _ _).mono ?_; rintro e w' ⟨rfl, rfl⟩; first | rw [hxa.out] | rw [hxb.out])
  go_ret2
  exact ⟨rfl, hb1.out.alloc hb1.out.size _⟩
end Go.Proofs.YtneagomkohoceaaDoor
