/- What the specification's ReadInstr answers. -/
import Derived.Test.YtneagomkohoceaaDoorC50
namespace Go.Proofs.YtneagomkohoceaaDoor
open Go.ChangeShapes Go.WideShapes Go.ChangeAt Go.RowKit
set_option linter.unusedVariables false
set_option linter.unusedSimpArgs false

set_option maxRecDepth 100000 in
set_option maxHeartbeats 2000000 in
theorem readi_spec (s : ByteArray) (w : World) (hs : s.size ≤ maxLen) :
    Calls Tryd.prog 21 #[.string s] w fun e w' => RdE s e ∧ Below w.heap.size w w' := by
  unfold maxLen at hs
  have hq0 := hid (Blk.new w zer5 24)
  have hb0 := hid ((Below.refl w.heap.size w).alloc (Nat.le_refl _) (.cells zer5 24))
  by_cases h : 65536 < s.size
  · have hE : Hid (RdE s (.returned (.tuple #[insV 0 0 0 0 0, .int .i64 2]))) := .inl ⟨h, rfl⟩
    go_enter Tryd.func21, Tryd.ntmps21
    go_wp2
    refine bodyPost_ret (v := .tuple #[insV 0 0 0 0 0, .int .i64 2]) (by simp [results, Tryd.results21, go_sem]) rfl ⟨hE.out, hb0.out⟩
  have h' : s.size ≤ 65536 := by omega
  have hY : Hid (∀ e, RdP (wordsB s) e → (∃ o a b n l, e = .returned (.tuple #[insV o a b n l, .bool true]) ∧ RdE s (.returned (.tuple #[insV o a b n l, .int .i64 0]))) ∨ (∃ o a b n l, e = .returned (.tuple #[insV o a b n l, .bool false]) ∧ RdE s (.returned (.tuple #[insV 0 0 0 0 0, .int .i64 3])))) := fun e he => by
    rcases he with ⟨k, hk, rfl⟩ | ⟨hn, o, a, b, n, l, rfl⟩
    · exact .inl ⟨_, _, _, _, _, rfl, .inr ⟨h, .inl ⟨k, hk, rfl⟩⟩⟩
    · exact .inr ⟨o, a, b, n, l, rfl, .inr ⟨h, .inr ⟨hn, rfl⟩⟩⟩
  go_enter Tryd.func21, Tryd.ntmps21
  go_wp2_with fail
  refine (read0_spec s _ h').mono ?_
  rintro e w1 ⟨he, hb⟩
  have hb1 := hid (new_trans hb0.out hb)
  have q1 := hid (hq0.out.below hb hq0.out.lt)
  clear hb hb0 hq0
  have x0 := q1.out.cell
  have f0 := q1.out.frozen
  have z0 := q1.out.lt
  rcases hY.out e he with ⟨o, a, b, n, l, he', hE⟩ | ⟨o, a, b, n, l, he', hE⟩
  · clear hY he
    rw [he']
    clear he'
    replace hE := hid hE
    go_wp2
    refine bodyPost_ret (v := .tuple #[insV o a b n l, .int .i64 0]) (by simp [results, Tryd.results21, go_sem, x0, z0]) rfl ⟨hE.out, ?_⟩
    refine (fun h => Below.alloc h h.size _) ?_
    iterate 5 refine Below.setCell ?_ (by first | omega | (simp; done) | (simp; omega)) _
    exact hb1.out
  · clear hY he
    rw [he']
    clear he'
    replace hE := hid hE
    go_wp2
    refine bodyPost_ret (v := .tuple #[insV 0 0 0 0 0, .int .i64 3]) (by simp [results, Tryd.results21, go_sem, x0, z0]) rfl ⟨hE.out, ?_⟩
    refine (fun h => Below.alloc h h.size _) ?_
    iterate 5 refine Below.setCell ?_ (by first | omega | (simp; done) | (simp; omega)) _
    exact hb1.out
end Go.Proofs.YtneagomkohoceaaDoor
