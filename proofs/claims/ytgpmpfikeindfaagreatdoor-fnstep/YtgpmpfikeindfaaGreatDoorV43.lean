/- While an answer of a processor, a memory and cycles is laid into variables of its own, in any order. -/
import Derived.Test.YtgpmpfikeindfaaGreatDoorV12
import Derived.Test.YtgpmpfikeindfaaGreatDoorV42
import Derived.Test.YtgpmpfikeindfaaGreatDoorV03
import Derived.Test.YtgpmpfikeindfaaGreatDoorV00
import Derived.Test.YtgpmpfikeindfaaGreatDoorV41
import Derived.Test.YtgpmpfikeindfaaGreatDoorV04
namespace Go.Proofs.YtgpmpfikeindfaaGreatDoor
open Go.ChangeShapes Go.WideShapes Go.ChangeAt Go.RowKit
set_option linter.unusedVariables false
set_option linter.unusedSimpArgs false

theorem Sts.perm {W : World} {L L' : List Thing} (h : Sts W L) (hp : L.Perm L') : Sts W L' :=
  ⟨fun t ht => h.lies t (hp.mem_iff.2 ht), (hp.pairwise_iff (fun {s t} hst b h1 h2 => hst b h2 h1)).1 h.apart⟩
/-- more things, all of them in blocks that are new -/
theorem Sts.join {W0 W : World} {L0 L : List Thing} (h0 : Sts W0 L0) (h : Sts W L) (hb : Below W0.heap.size W0 W) (hf : ∀ t, t ∈ L → ∀ b, t.dom b → W0.heap.size ≤ b) : Sts W (L ++ L0) :=
  ⟨fun t ht => by
    rcases List.mem_append.1 ht with ht | ht
    · exact h.lies t ht
    · exact (h0.lies t ht).below hb, List.pairwise_append.2 ⟨h.apart, h0.apart, fun s hs t ht b h1 h2 => by
      have := hf s hs b h1
      have := (h0.lies t ht).lt b h2
      omega⟩⟩
def wiL (lc la lb sa sb : Bool) (X : Mx) (u cv : Value) (lo hi b6 b7 : Nat) (mA : Array Value) : List Thing :=
  (bif lc then [tCyc cv X.cy, tMem lo hi u X.m] else []) ++ ((bif la then [tBox b6 (bif sa then cpA X.c else zC)] else []) ++ (bif lb then [tBox b7 (bif sb then mA else zM)] else []))
structure WI (w1 w : World) (lc la lb sa sb : Bool) (X : Mx) (u cv : Value) (lo hi b6 b7 : Nat) (mA : Array Value) : Prop where
  bel : Below w1.heap.size w1 w
  sts : Sts w (wiL lc la lb sa sb X u cv lo hi b6 b7 mA)
  far : ∀ t, t ∈ wiL lc la lb sa sb X u cv lo hi b6 b7 mA → ∀ b, t.dom b → w1.heap.size ≤ b
theorem Ans.things2 {W0 W : World} {x : Mx} {u cv : Value} {L : List Thing} (h : Ans W0 W x u cv) (hS : Sts W0 L) : ∃ lo hi, Sts W (tCyc cv x.cy :: tMem lo hi u x.m :: L) ∧ W0.heap.size ≤ lo ∧ ∀ b, cv.ownBlock = some b → W0.heap.size ≤ b := by
  obtain ⟨⟨lo, hi, h1, h2, h3, h4⟩, h5, h6⟩ := h
  refine ⟨lo, hi, (hS.push h6 (sits_mem h1 h3) (fun b hb => by have := hb.1; omega)).add (sits_cyc (h5.mono (Nat.zero_le _))) (fun s hs b hb hd => ?_), h2, fun b hb => (h5.lt b hb).1⟩
  have hlt := h5.lt b hb
  rcases List.mem_cons.1 hs with rfl | hs
  · have : lo ≤ b ∧ b < hi := hd
    have := h4 b hb
    omega
  · have := (hS.lies s hs).lt b hd
    omega
section
variable {w1 w w' : World} {lc la lb sa sb : Bool} {X : Mx} {u cv : Value} {lo hi b6 b7 : Nat} {mA : Array Value}
theorem WI.start (h : Below w1.heap.size w1 w) : WI w1 w false false false sa sb X u cv lo hi b6 b7 mA := ⟨h, Sts.nil _, fun t h => by cases h⟩
theorem WI.below (h : WI w1 w lc la lb sa sb X u cv lo hi b6 b7 mA) (hb : Below w.heap.size w w') : WI w1 w' lc la lb sa sb X u cv lo hi b6 b7 mA := ⟨new_trans h.bel hb, h.sts.below hb, h.far⟩
theorem WI.call {u' cv' : Value} (mA' : Array Value) (h : WI w1 w false la lb false false X u cv lo hi b6 b7 mA) (hA : Ans w w' X u' cv') : ∃ lo' hi', WI w1 w' true la lb false false X u' cv' lo' hi' b6 b7 mA' := by
  obtain ⟨lo', hi', hS, h1, h2⟩ := hA.things2 h.sts
  have e : wiL true la lb false false X u' cv' lo' hi' b6 b7 mA' = tCyc cv' X.cy :: tMem lo' hi' u' X.m :: wiL false la lb false false X u cv lo hi b6 b7 mA := rfl
  have hz := h.bel.size
  refine ⟨lo', hi', new_trans h.bel hA.bel, by rw [e]; exact hS, ?_⟩
  rw [e]
  intro t ht b hd
  rcases List.mem_cons.1 ht with rfl | ht
  · exact Nat.le_trans hz (h2 b hd)
  rcases List.mem_cons.1 ht with rfl | ht
  · exact Nat.le_trans hz (Nat.le_trans h1 hd.1)
  · exact h.far t ht b hd
theorem WI.alA (t : TypeId) (h : WI w1 w lc false lb false sb X u cv lo hi b6 b7 mA) : WI w1 (w.alloc (.cells zC t)) lc true lb false sb X u cv lo hi w.heap.size b7 mA := by
  have hb := (Below.refl w.heap.size w).alloc (Nat.le_refl _) (.cells zC t)
  have hp : (tBox w.heap.size zC :: wiL lc false lb false sb X u cv lo hi b6 b7 mA).Perm (wiL lc true lb false sb X u cv lo hi w.heap.size b7 mA) := by
    show (tBox w.heap.size zC :: ((bif lc then [tCyc cv X.cy, tMem lo hi u X.m] else []) ++ ([] ++ (bif lb then [tBox b7 (bif sb then mA else zM)] else [])))).Perm ((bif lc then [tCyc cv X.cy, tMem lo hi u X.m] else []) ++ ([tBox w.heap.size zC] ++ (bif lb then [tBox b7 (bif sb then mA else zM)] else [])))
    exact (List.perm_middle (l₁ := (bif lc then [tCyc cv X.cy, tMem lo hi u X.m] else []))).symm
  refine ⟨new_trans h.bel hb, (h.sts.box zC t).perm hp, fun s hs b hd => ?_⟩
  rcases List.mem_cons.1 (hp.mem_iff.2 hs) with rfl | hs
  · have : b = w.heap.size := hd
    rw [this]; exact h.bel.size
  · exact h.far s hs b hd
theorem WI.alB (t : TypeId) (h : WI w1 w lc la false sa false X u cv lo hi b6 b7 mA) : WI w1 (w.alloc (.cells zM t)) lc la true sa false X u cv lo hi b6 w.heap.size mA := by
  have hb := (Below.refl w.heap.size w).alloc (Nat.le_refl _) (.cells zM t)
  have hp : (tBox w.heap.size zM :: wiL lc la false sa false X u cv lo hi b6 b7 mA).Perm (wiL lc la true sa false X u cv lo hi b6 w.heap.size mA) := by
    show (tBox w.heap.size zM :: ((bif lc then [tCyc cv X.cy, tMem lo hi u X.m] else []) ++ ((bif la then [tBox b6 (bif sa then cpA X.c else zC)] else []) ++ []))).Perm ((bif lc then [tCyc cv X.cy, tMem lo hi u X.m] else []) ++ ((bif la then [tBox b6 (bif sa then cpA X.c else zC)] else []) ++ [tBox w.heap.size zM]))
    rw [List.append_nil, ← List.append_assoc]
    exact (List.perm_append_singleton _ _).symm
  refine ⟨new_trans h.bel hb, (h.sts.box zM t).perm hp, fun s hs b hd => ?_⟩
  rcases List.mem_cons.1 (hp.mem_iff.2 hs) with rfl | hs
  · have : b = w.heap.size := hd
    rw [this]; exact h.bel.size
  · exact h.far s hs b hd
theorem WI.boxA (h : WI w1 w lc true lb sa sb X u cv lo hi b6 b7 mA) : Blk w b6 (bif sa then cpA X.c else zC) :=
  (h.sts.lies (tBox b6 (bif sa then cpA X.c else zC)) (List.mem_append.2 (.inr (List.mem_append.2 (.inl (List.mem_singleton.2 rfl)))))).now
theorem WI.boxB (h : WI w1 w lc la true sa sb X u cv lo hi b6 b7 mA) : Blk w b7 (bif sb then mA else zM) :=
  (h.sts.lies (tBox b7 (bif sb then mA else zM)) (List.mem_append.2 (.inr (List.mem_append.2 (.inr (List.mem_singleton.2 rfl)))))).now
theorem WI.turn {L1 L2 : List Thing} {b : Nat} {A A' : Array Value} {l : List Value} (hS : Sts w (L1 ++ tBox b A :: L2)) (hA : setsA 0 l A = A') : Sts (sets w b 0 l) (L1 ++ tBox b A' :: L2) := by
  have hq : Blk w b A := (hS.lies (tBox b A) (List.mem_append.2 (.inr (List.mem_cons_self ..)))).now
  have hq' := sets_blk b l w 0 A hq
  rw [hA] at hq'
  have := hS.turn (W' := sets w b 0 l) L1.length (t := tBox b A) (say' := fun W => Blk W b A') (by rw [List.getElem?_append_right (Nat.le_refl _), Nat.sub_self]; rfl) (by rw [sets_size]; exact Nat.le_refl _) (fun y _ hn => sets_heap b l w 0 y hn) (sits_box hq')
  rw [List.set_append_right _ _ (Nat.le_refl _), Nat.sub_self] at this
  exact this
theorem WI.stA (h : WI w1 w lc true lb false sb X u cv lo hi b6 b7 mA) : WI w1 (sets w b6 0 (cpuL X.c)) lc true lb true sb X u cv lo hi b6 b7 mA := by
  have e : wiL lc true lb false sb X u cv lo hi b6 b7 mA = (bif lc then [tCyc cv X.cy, tMem lo hi u X.m] else []) ++ tBox b6 zC :: (bif lb then [tBox b7 (bif sb then mA else zM)] else []) := rfl
  have e2 : wiL lc true lb true sb X u cv lo hi b6 b7 mA = (bif lc then [tCyc cv X.cy, tMem lo hi u X.m] else []) ++ tBox b6 (cpA X.c) :: (bif lb then [tBox b7 (bif sb then mA else zM)] else []) := rfl
  have hl : w1.heap.size ≤ b6 := h.far (tBox b6 zC) (List.mem_append.2 (.inr (List.mem_append.2 (.inl (List.mem_singleton.2 rfl))))) b6 rfl
  refine ⟨sets_below _ _ _ _ _ _ h.bel hl, by rw [e2]; exact WI.turn (by rw [← e]; exact h.sts) (setsC _), fun t ht b hd => ?_⟩
  rw [e2] at ht
  rcases List.mem_append.1 ht with ht | ht
  · exact h.far t (by rw [e]; exact List.mem_append.2 (.inl ht)) b hd
  · rcases List.mem_cons.1 ht with rfl | ht
    · have : b = b6 := hd
      rw [this]; exact hl
    · exact h.far t (by rw [e]; exact List.mem_append.2 (.inr (List.mem_cons_of_mem _ ht))) b hd
theorem WI.stB {vr vm : Value} (h : WI w1 w lc la true sa false X u cv lo hi b6 b7 #[vr, vm, .int .i64 X.m.page, .int .i64 X.m.screen, .bool X.m.locked]) : WI w1 (sets w b7 0 (meL vr vm X.m)) lc la true sa true X u cv lo hi b6 b7 #[vr, vm, .int .i64 X.m.page, .int .i64 X.m.screen, .bool X.m.locked] := by
  obtain ⟨L1, hL1⟩ : ∃ L1, (bif lc then [tCyc cv X.cy, tMem lo hi u X.m] else []) ++ (bif la then [tBox b6 (bif sa then cpA X.c else zC)] else []) = L1 := ⟨_, rfl⟩
  have e : wiL lc la true sa false X u cv lo hi b6 b7 #[vr, vm, .int .i64 X.m.page, .int .i64 X.m.screen, .bool X.m.locked] = L1 ++ tBox b7 zM :: [] := by rw [← hL1, List.append_assoc]; rfl
  have e2 : wiL lc la true sa true X u cv lo hi b6 b7 #[vr, vm, .int .i64 X.m.page, .int .i64 X.m.screen, .bool X.m.locked] = L1 ++ tBox b7 #[vr, vm, .int .i64 X.m.page, .int .i64 X.m.screen, .bool X.m.locked] :: [] := by rw [← hL1, List.append_assoc]; rfl
  have hl : w1.heap.size ≤ b7 := h.far (tBox b7 zM) (by rw [e]; exact List.mem_append.2 (.inr (List.mem_cons_self ..))) b7 rfl
  refine ⟨sets_below _ _ _ _ _ _ h.bel hl, by rw [e2]; exact WI.turn (by rw [← e]; exact h.sts) (setsM _ _ _), fun t ht b hd => ?_⟩
  rw [e2] at ht
  rcases List.mem_append.1 ht with ht | ht
  · exact h.far t (by rw [e]; exact List.mem_append.2 (.inl ht)) b hd
  · rcases List.mem_cons.1 ht with rfl | ht
    · have : b = b7 := hd
      rw [this]; exact hl
    · cases ht
theorem WI.done {L0 : List Thing} (h : WI w1 w true true true true true X u cv lo hi b6 b7 mA) (h0 : Sts w1 L0) : Sts w (tCyc cv X.cy :: tMem lo hi u X.m :: tBox b6 (cpA X.c) :: tBox b7 mA :: L0) := h0.join h.sts h.bel h.far
end
end Go.Proofs.YtgpmpfikeindfaaGreatDoor

/- What the exact laws' helpers over memories answer: equal ones are told equal, marks are held, sizes taken off, a copy is made in blocks of its own. -/
namespace Go.Proofs.YtgpmpfikeindfaaGreatDoor
open Go.ChangeShapes Go.WideShapes Go.ChangeAt Go.RowKit
set_option linter.unusedVariables false

/-- a memory that is not too great for the laws -/
def Small (M : Mem) : Prop := M.rom.length ≤ 2000000 ∧ M.ram.length ≤ 2000000 ∧ pre M.ram M.ram.length ≤ 2000000
theorem Small.rows {M : Mem} (h : Small M) : ∀ i, i < M.ram.length → (M.ram.getD i []).length ≤ 1000000000 := fun i hi => by
  have := row_le_pre M.ram i hi
  have := h.2.2
  omega
def Big (M : Mem) : Prop := M.rom.length ≤ maxLen ∧ M.ram.length ≤ maxLen ∧ ∀ i, i < M.ram.length → (M.ram.getD i []).length ≤ maxLen
/-- how many numbers a memory has -/
def cntM (M : Mem) : Nat := M.rom.length + pre M.ram M.ram.length
def markM (M : Mem) (m : Int) : Mem := { M with rom := markL m M.rom.length, ram := mrL M.ram (m + (M.rom.length : Nat)) M.ram.length }
theorem RowR.form {w : World} {v : Value} {zs : List Int} (h : RowR w v zs) : ∃ a cap, v = .slice a zs.length cap := by
  obtain ⟨a, cap, h, _⟩ := h
  exact ⟨a, cap, h⟩
theorem RowsR.form {w : World} {v : Value} {zss : List (List Int)} (h : RowsR w v zss) : ∃ a cap, v = .slice a zss.length cap := by
  obtain ⟨a, cap, h, _⟩ := h
  exact ⟨a, cap, h⟩

end Go.Proofs.YtgpmpfikeindfaaGreatDoor

/- What is asked of the answers of a call on a processor in the exact laws: they are small; marks are laid into them. -/
namespace Go.Proofs.YtgpmpfikeindfaaGreatDoor
open Go.ChangeShapes Go.WideShapes Go.ChangeAt Go.RowKit
set_option linter.unusedVariables false
set_option linter.unusedSimpArgs false

theorem mem0_smallq : Small mem0 := ⟨Nat.zero_le _, Nat.zero_le _, Nat.zero_le _⟩
theorem small_ok {M : Mem} (h : okM M = true) : Small M := by
  obtain ⟨k1, k2, k3, k4, k5⟩ := ok_parts h
  have hl := bytes_len k1
  have hb : ∀ i, i < 4 → (M.ram.getD i []).length = 64 := fun i hi => bytes_len (k5 i (by omega))
  refine ⟨by omega, by omega, ?_⟩
  have p1 := pre_succ M.ram 0 (by omega)
  have p2 := pre_succ M.ram 1 (by omega)
  have p3 := pre_succ M.ram 2 (by omega)
  have p4 := pre_succ M.ram 3 (by omega)
  rw [hb 0 (by omega), pre_zero] at p1
  rw [hb 1 (by omega)] at p2
  rw [hb 2 (by omega)] at p3
  rw [hb 3 (by omega)] at p4
  simp only [Nat.zero_add, Nat.reduceAdd] at p1 p2 p3 p4
  rw [k2]
  omega
/-- things that lie apart, all of them made since w -/
structure StF (w W : World) (L : List Thing) : Prop where
  sts : Sts W L
  bel : Below w.heap.size w W
  far : ∀ t, t ∈ L → ∀ b, t.dom b → w.heap.size ≤ b
theorem StF.at {w W : World} {L : List Thing} (h : StF w W L) (i : Nat) {t : Thing} (e : L[i]? = some t) : t.say W := h.sts.at i e
theorem StF.below {w W W' : World} {L : List Thing} (h : StF w W L) (hb : Below W.heap.size W W') : StF w W' L := ⟨h.sts.below hb, new_trans h.bel hb, h.far⟩
theorem StF.nil (w : World) : StF w w [] := ⟨Sts.nil _, Below.refl _ _, fun t h => by cases h⟩
theorem StF.box {w W : World} {L : List Thing} (h : StF w W L) (A : Array Value) (t : TypeId) : StF w (W.alloc (.cells A t)) (tBox W.heap.size A :: L) :=
  ⟨h.sts.box A t, h.bel.alloc h.bel.size _, fun s hs b hd => by
    rcases List.mem_cons.1 hs with rfl | hs
    · have : b = W.heap.size := hd
      rw [this]; exact h.bel.size
    · exact h.far s hs b hd⟩
theorem StF.mem {w W W' : World} {L : List Thing} {v : Value} {M : Mem} (h : StF w W L) (hb : Below W.heap.size W W') (hm : MemO W' W.heap.size W'.heap.size v M) : StF w W' (tMem W.heap.size W'.heap.size v M :: L) :=
  ⟨h.sts.mem hb hm, new_trans h.bel hb, fun s hs b hd => by
    rcases List.mem_cons.1 hs with rfl | hs
    · exact Nat.le_trans h.bel.size hd.1
    · exact h.far s hs b hd⟩
theorem StF.turn {w W W' : World} {L : List Thing} (h : StF w W L) (i : Nat) {t : Thing} {say' : World → Prop} (e : L[i]? = some t) (hs : W.heap.size ≤ W'.heap.size) (ho : W'.os = W.os ∧ W'.tape = W.tape ∧ W'.output = W.output) (hk : ∀ b, b < W.heap.size → ¬ t.dom b → W'.heap[b]? = W.heap[b]?) (ht : Sits W' ⟨t.dom, say'⟩) : StF w W' (L.set i ⟨t.dom, say'⟩) := by
  have hmem := List.mem_of_getElem? e
  refine ⟨h.sts.turn i e hs hk ht, ⟨ho.1.trans h.bel.os, ho.2.1.trans h.bel.tape, ho.2.2.trans h.bel.output, Nat.le_trans h.bel.size hs, fun k hk2 => ?_⟩, fun s hs2 b hd => ?_⟩
  · have hz := h.bel.size
    rw [hk k (by omega) (fun hd => by have := h.far t hmem k hd; omega)]
    exact h.bel.block k hk2
  · obtain ⟨j, hj, rfl⟩ := List.getElem_of_mem hs2
    rw [List.length_set] at hj
    by_cases e2 : i = j
    · subst e2
      rw [List.getElem_set_self] at hd
      exact h.far t hmem b hd
    · rw [List.getElem_set_ne e2] at hd
      exact h.far L[j] (List.getElem_mem hj) b hd
theorem StF.touch {w W W' : World} {L : List Thing} (h : StF w W L) (i : Nat) {lo hi : Nat} {v : Value} {M M' : Mem} (e : L[i]? = some (tMem lo hi v M)) (ht : Touch lo hi W W') (hm : MemO W' lo hi v M') : StF w W' (L.set i (tMem lo hi v M')) := by
  have hl := h.sts.has i e
  refine h.turn i e ht.size ⟨ht.os, ht.tape, ht.output⟩ (fun b hb hn => ht.block b hb (by show b < lo ∨ hi ≤ b; have : ¬ (lo ≤ b ∧ b < hi) := hn; omega)) ⟨hm, fun b hb => ?_, fun W2 hk => hm.kept (fun b h0 h1 => hk b ⟨h0, h1⟩)⟩
  exact Nat.lt_of_lt_of_le (hl.lt b hb) ht.size
theorem StF.mark {w W W' : World} {L : List Thing} (h : StF w W L) (i : Nat) {v : Value} {l l' : List (Nat × Nat × Nat)} (e : L[i]? = some (tCyc v l)) (hm : CyO W' v l') (hg : W.grownBy W' v.ownBlock) : StF w W' (L.set i (tCyc v l')) :=
  h.turn i e hg.size ⟨hg.os, hg.tape, hg.output⟩ (fun b hb hn => hg.block b hb (fun e2 => hn e2.symm)) (sits_cyc hm)
theorem WI.stf {w w1 w' : World} {X : Mx} {u cv : Value} {lo hi b6 b7 : Nat} {mA : Array Value} {L0 : List Thing} (h : WI w1 w' true true true true true X u cv lo hi b6 b7 mA) (h0 : StF w w1 L0) : StF w w' (tCyc cv X.cy :: tMem lo hi u X.m :: tBox b6 (cpA X.c) :: tBox b7 mA :: L0) :=
  ⟨h.done h0.sts, new_trans h0.bel h.bel, fun t ht b hd => by
    have ht : t ∈ wiL true true true true true X u cv lo hi b6 b7 mA ++ L0 := ht
    rcases List.mem_append.1 ht with ht | ht
    · exact Nat.le_trans h0.bel.size (h.far t ht b hd)
    · exact h0.far t ht b hd⟩
set_option maxRecDepth 100000 in
theorem int_small {c : Cu} {M : Mem} (h : Small M) : Small (intX c M).m := by
  unfold intX
  split
  · rename_i hb
    have hb : okC c = true ∧ okM M = true := by simpa using hb
    split
    · exact h
    · have hp : c.cp.pc < 256 := (okC_cp hb.1).2.2.2.2.2.2.2.2.2.2
      have hq : inB ((c.cp.pc : Nat) : Int) 0 255 = true := in_yes (by omega) (by omega)
      have hr : okM (intM c.cp M).m = true := poke_ok hb.2 hq
      exact small_ok hr
  · exact mem0_smallq
theorem int_len (c : Cu) (M : Mem) : (intX c M).cy.length ≤ 1000 := by
  unfold intX
  split
  · split
    · exact Nat.zero_le _
    · show ([_] ++ [_] : List (Nat × Nat × Nat)).length ≤ 1000
      simp
  · exact Nat.zero_le _
theorem stp_inv {c : Cu} {M : Mem} {n : Int} (hb : (okC c && okM M) = true) (hn : inB n 0 255 = true) : Inv M (1, c.cp.pc, peekN M c.cp.pc) 4 (stepM c.cp M n.toNat) := by
  have hb : okC c = true ∧ okM M = true := by simpa using hb
  have := inB_bd hn
  exact step_inv (okC_cp hb.1).2 hb.2 (by omega)
theorem stp_small {c : Cu} {M : Mem} {n : Int} (h : Small M) : Small (stpX c M n).m := by
  unfold stpX
  split
  · rename_i hb
    split
    · rename_i hn
      exact small_ok (stp_inv hb hn).m
    · exact mem0_smallq
  · exact mem0_smallq
theorem stp_len (c : Cu) (M : Mem) (n : Int) : (stpX c M n).cy.length ≤ 1000 := by
  unfold stpX
  split
  · rename_i hb
    split
    · rename_i hn
      exact Nat.le_trans (stp_inv hb hn).len (by omega)
    · exact Nat.zero_le _
  · exact Nat.zero_le _
theorem MemO.none {W W' : World} {lo hi lo' hi' : Nat} {v : Value} {M : Mem} (h : MemO W lo hi v M) (hh : hi ≤ lo) : MemO W' lo' hi' v M := by
  rcases h with h | ⟨vr, vm, r, s, G, e, h1, h2, b1, b2, _⟩
  · exact .inl h
  · omega
end Go.Proofs.YtgpmpfikeindfaaGreatDoor
