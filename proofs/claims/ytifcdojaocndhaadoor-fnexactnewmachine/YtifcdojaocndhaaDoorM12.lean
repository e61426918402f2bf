/- A block out of its bytes: the specification. -/
import Derived.Test.YtifcdojaocndhaaDoorUbm
import Derived.BigRegion
import Derived.Test.YtifcdojaocndhaaDoorM00
import Derived.LaidEql
import Derived.Stop.Asserts
import Derived.RowKitTokens
import Derived.Test.YtifcdojaocndhaaDoorM02
import Derived.Deep.RegionWith
import Derived.Deep.RegionHeld3
import Derived.WalkSpells
import Derived.OneCell
import Derived.Deep.AppendLies
namespace Go.Proofs.YtifcdojaocndhaaDoor
open Go.ChangeShapes Go.WideShapes Go.ChangeAt Go.RowKit
set_option linter.unusedVariables false
set_option linter.unusedSimpArgs false

/-- flag, data, code -/
def ofB (t : ByteArray) : (Int × ByteArray) × Int :=
  if t.size < 2 ∨ 42 < t.size then ((0, ByteArray.empty), 8)
  else if xorN t t.size ≠ 0 then ((0, ByteArray.empty), 10)
  else ((byt t 0, t.extract 1 (t.size - 1)), 0)
abbrev ofT (x : (Int × ByteArray) × Int) : Value := .tuple #[bkV x.1.1 x.1.2, .int .i64 x.2]
end Go.Proofs.YtifcdojaocndhaaDoor

/- errors.Is of errors that errors.New has made: true of the same, false of nil and of another; the world stays as it was. -/
namespace Go.Proofs.YtifcdojaocndhaaDoor
open Go.RowKit Go.Extern.Stop Go.Stop Go.Extern
set_option linter.unusedVariables false
/-- what the model runs for '(rtype).Comparable' -/
def cmpF : Array Value → Sem Value := Extern.ReflectliteType.method fun t => do Extern.Rtype.noPackHeld "Comparable" t; pure (.bool (← typeInfo t).comparable)
end Go.Proofs.YtifcdojaocndhaaDoor

/- What the takers of a cursor answer, the program's own and the specification's: both are takeV; new blocks at most. -/
namespace Go.Proofs.YtifcdojaocndhaaDoor
open Go.ChangeShapes Go.WideShapes Go.ChangeAt Go.RowKit
set_option linter.unusedVariables false
set_option linter.unusedSimpArgs false

/-- the cursor stands in its data -/
def stB (s : ByteArray) (a : Int) : Bool := decide (s.size ≤ 65536 ∧ 0 ≤ a ∧ a ≤ s.size)
theorem stB_yes {s : ByteArray} {a : Int} (h : stB s a = true) : s.size ≤ 65536 ∧ 0 ≤ a ∧ a ≤ s.size := by simpa [stB] using h
theorem stB_no {s : ByteArray} {a : Int} (h : stB s a = false) : ¬ (s.size ≤ 65536 ∧ 0 ≤ a ∧ a ≤ s.size) := by simpa [stB] using h
abbrev cur (s : ByteArray) (a : Int) : Value := .agg #[.string s, .int .i64 a]

/-- the cursor behind what is taken, what is taken, the code -/
def takeV (s : ByteArray) (a n : Int) : (ByteArray × Int) × ByteArray × Int :=
  if stB s a = false then ((ByteArray.empty, 0), ByteArray.empty, 1)
  else if n < 0 ∨ 65536 < n then ((ByteArray.empty, 0), ByteArray.empty, 4)
  else if (s.size : Int) < a + n then ((s, a), ByteArray.empty, 9)
  else ((s, a + n), s.extract a.toNat (a + n).toNat, 0)
def takeT (x : (ByteArray × Int) × ByteArray × Int) : Value := .tuple #[cur x.1.1 x.1.2, .string x.2.1, .int .i64 x.2.2]

end Go.Proofs.YtifcdojaocndhaaDoor

/- What the cursor's own method take answers, and TakeBytes, TakeByte, TakeWord over it. -/
namespace Go.Proofs.YtifcdojaocndhaaDoor
open Go.ChangeShapes Go.WideShapes Go.ChangeAt Go.RowKit
set_option linter.unusedVariables false
set_option linter.unusedSimpArgs false
end Go.Proofs.YtifcdojaocndhaaDoor

/- What TakeBytes, TakeByte and TakeWord answer, the program's own and the specification's: the same, made out of takeV; new blocks at most. -/
namespace Go.Proofs.YtifcdojaocndhaaDoor
open Go.ChangeShapes Go.WideShapes Go.ChangeAt Go.RowKit
set_option linter.unusedVariables false
set_option linter.unusedSimpArgs false

theorem takeV_code (s : ByteArray) (a n : Int) : (takeV s a n).2.2 = 0 ∨ (takeV s a n).2.2 = 1 ∨ (takeV s a n).2.2 = 4 ∨ (takeV s a n).2.2 = 9 := by
  unfold takeV
  repeat' split
  all_goals simp
theorem takeV_size (s : ByteArray) (a : Int) (n : Nat) (h : (takeV s a n).2.2 = 0) : (takeV s a n).2.1.size = n ∧ (takeV s a n).1.1 = s ∧ 0 ≤ a ∧ a + n ≤ s.size ∧ (takeV s a n).1.2 = a + n ∧ (takeV s a n).2.1 = s.extract a.toNat (a + n).toNat := by
  unfold takeV at h ⊢
  split at h
  · simp at h
  · rename_i h1
    obtain ⟨_, h2, h3⟩ := stB_yes (by simpa using h1)
    split at h
    · simp at h
    · split at h
      · simp at h
      · rename_i h4 h5
        rw [if_neg h1, if_neg h4, if_neg h5]
        refine ⟨?_, rfl, h2, by omega, rfl, rfl⟩
        simp [ByteArray.size_extract]
        omega
def tbV (X : (ByteArray × Int) × ByteArray × Int) : Value := .tuple #[cur X.1.1 X.1.2, .int .i64 (if X.2.2 = 0 then byt X.2.1 0 else 0), .int .i64 X.2.2]
def twV (X : (ByteArray × Int) × ByteArray × Int) : Value := .tuple #[cur X.1.1 X.1.2, .int .i64 (if X.2.2 = 0 then byt X.2.1 0 + 256 * byt X.2.1 1 else 0), .int .i64 X.2.2]

end Go.Proofs.YtifcdojaocndhaaDoor

/- What the specification's TakeBytes, TakeByte and TakeWord answer, and the laws' own helpers over cursors. -/
namespace Go.Proofs.YtifcdojaocndhaaDoor
open Go.ChangeShapes Go.WideShapes Go.ChangeAt Go.RowKit
set_option linter.unusedVariables false
set_option linter.unusedSimpArgs false
end Go.Proofs.YtifcdojaocndhaaDoor

/- A block that is taken off a cursor: the specification. -/
namespace Go.Proofs.YtifcdojaocndhaaDoor
open Go.ChangeShapes Go.WideShapes Go.ChangeAt Go.RowKit
set_option linter.unusedVariables false
set_option linter.unusedSimpArgs false


abbrev curA (s : ByteArray) (a : Int) : Array Value := #[.string s, .int .i64 a]
/-- the cursor behind it, the block, the code -/
abbrev tkT (x : ((ByteArray × Int) × (Int × ByteArray)) × Int) : Value := .tuple #[cur x.1.1.1 x.1.1.2, bkV x.1.2.1 x.1.2.2, .int .i64 x.2]
def wordOf (t : ByteArray) : Int := byt t 0 + 256 * byt t 1
def tkB (s : ByteArray) (a : Int) : ((ByteArray × Int) × (Int × ByteArray)) × Int :=
  if stB s a = false then (((ByteArray.empty, 0), (0, ByteArray.empty)), 1)
  else if (takeV s a 2).2.2 ≠ 0 then (((s, a), (0, ByteArray.empty)), (takeV s a 2).2.2)
  else if (takeV (takeV s a 2).1.1 (takeV s a 2).1.2 (wordOf (takeV s a 2).2.1)).2.2 ≠ 0 then (((s, a), (0, ByteArray.empty)), (takeV (takeV s a 2).1.1 (takeV s a 2).1.2 (wordOf (takeV s a 2).2.1)).2.2)
  else if (ofB (takeV (takeV s a 2).1.1 (takeV s a 2).1.2 (wordOf (takeV s a 2).2.1)).2.1).2 ≠ 0 then (((s, a), (0, ByteArray.empty)), (ofB (takeV (takeV s a 2).1.1 (takeV s a 2).1.2 (wordOf (takeV s a 2).2.1)).2.1).2)
  else (((takeV (takeV s a 2).1.1 (takeV s a 2).1.2 (wordOf (takeV s a 2).2.1)).1, (ofB (takeV (takeV s a 2).1.1 (takeV s a 2).1.2 (wordOf (takeV s a 2).2.1)).2.1).1), 0)
/-- the cursor's box, and room for the answer -/
structure K3 (w W : World) (s : ByteArray) (a : Int) : Prop where
  q0 : Blk W w.heap.size (curA s a)
  q1 : Blk W (w.heap.size + 1) (curA eS 0)
  q2 : Blk W (w.heap.size + 1 + 1) (bkA 0 eS)
  bel : Below w.heap.size w W
theorem K3.below {w W W' : World} {s : ByteArray} {a : Int} (h : K3 w W s a) (hb : Below W.heap.size W W') : K3 w W' s a :=
  ⟨h.q0.below hb h.q0.lt, h.q1.below hb h.q1.lt, h.q2.below hb h.q2.lt, h.bel.trans (hb.mono h.bel.size)⟩
theorem K3.start (w : World) (s : ByteArray) (a : Int) (t t1 t2 : TypeId) : K3 w (((w.alloc (.cells (curA s a) t)).alloc (.cells (curA eS 0) t1)).alloc (.cells (bkA 0 eS) t2)) s a := by
  have hB1 : Below w.heap.size w (w.alloc (.cells (curA s a) t)) := (Below.refl _ _).alloc (Nat.le_refl _) _
  have hB2 := hB1.alloc hB1.size (.cells (curA eS 0) t1)
  have q1 : Blk ((w.alloc (.cells (curA s a) t)).alloc (.cells (curA eS 0) t1)) (w.heap.size + 1) (curA eS 0) := by
    have := Blk.new (w.alloc (.cells (curA s a) t)) (curA eS 0) t1
    rw [World.size_alloc] at this
    exact this
  refine ⟨((Blk.new w _ t).alloc _).alloc _, q1.alloc _, ?_, hB2.alloc hB2.size _⟩
  have := Blk.new ((w.alloc (.cells (curA s a) t)).alloc (.cells (curA eS 0) t1)) (bkA 0 eS) t2
  rw [World.size_alloc, World.size_alloc] at this
  exact this
end Go.Proofs.YtifcdojaocndhaaDoor

/- A block that is taken off a cursor, whole: the specification. -/
namespace Go.Proofs.YtifcdojaocndhaaDoor
open Go.ChangeShapes Go.WideShapes Go.ChangeAt Go.RowKit
set_option linter.unusedVariables false
set_option linter.unusedSimpArgs false

theorem wordOf_nat (t : ByteArray) : ∃ n : Nat, wordOf t = n ∧ n ≤ 65535 := by
  have h0 := byt_bd t 0
  have h1 := byt_bd t 1
  unfold wordOf
  exact ⟨(byt t 0 + 256 * byt t 1).toNat, by omega, by omega⟩
end Go.Proofs.YtifcdojaocndhaaDoor

/- Lists of blocks, and their text: the specification. -/
namespace Go.Proofs.YtifcdojaocndhaaDoor
open Go.ChangeShapes Go.WideShapes Go.ChangeAt Go.RowKit
set_option linter.unusedVariables false
set_option linter.unusedSimpArgs false

abbrev bkz : Int × ByteArray := (0, ⟨#[]⟩)
/-- a list of blocks, read wherever it lies -/
def BkR (W : World) (a : Option Addr) (l : List (Int × ByteArray)) : Prop :=
  l = [] ∨ ∃ g o, a = some ⟨g, o, none⟩ ∧ ∀ k, k < l.length → W.cell? ⟨g, o + k * 2, none⟩ = some (.int .i64 (l.getD k bkz).1) ∧ W.cell? ⟨g, o + k * 2 + 1, none⟩ = some (.string (l.getD k bkz).2)
theorem cell_keptU {W W' : World} {b i : Nat} {v : Value} (hb : Below W.heap.size W W') (h : W.cell? ⟨b, i, none⟩ = some v) : W'.cell? ⟨b, i, none⟩ = some v := by
  rw [hb.cell (p := ⟨b, i, none⟩) (World.block_lt_of_cell? W _ h)]
  exact h
theorem BkR.below {W W' : World} {a : Option Addr} {l : List (Int × ByteArray)} (h : BkR W a l) (hb : Below W.heap.size W W') : BkR W' a l := by
  rcases h with h | ⟨g, o, ha, h⟩
  · exact .inl h
  · exact .inr ⟨g, o, ha, fun k hk => ⟨cell_keptU hb (h k hk).1, cell_keptU hb (h k hk).2⟩⟩
theorem BkR.at {W : World} {a : Option Addr} {l : List (Int × ByteArray)} (h : BkR W a l) {k : Nat} (hk : k < l.length) : ∃ g o, a = some ⟨g, o, none⟩ ∧ W.cell? ⟨g, o + k * 2, none⟩ = some (.int .i64 (l.getD k bkz).1) ∧ W.cell? ⟨g, o + k * 2 + 1, none⟩ = some (.string (l.getD k bkz).2) := by
  rcases h with rfl | ⟨g, o, ha, h⟩
  · exact absurd hk (by simp)
  · exact ⟨g, o, ha, h k hk⟩
def allL (l : List (Int × ByteArray)) : Bool := l.all (fun x => okB x.1 x.2) && decide (l.length ≤ 6)
def tapN (l : List (Int × ByteArray)) : Nat → ByteArray
  | 0 => ByteArray.empty
  | k + 1 => tapN l k ++ txtB (l.getD k bkz).1 (l.getD k bkz).2
def tap2 (l : List (Int × ByteArray)) : ByteArray × Int := if 4096 < l.length then (ByteArray.empty, 2) else if allL l = true then (tapN l l.length, 0) else (ByteArray.empty, 1)
theorem getD_mem {l : List (Int × ByteArray)} {k : Nat} (h : k < l.length) : l.getD k bkz ∈ l := by
  rw [List.getD_eq_getElem?_getD, List.getElem?_eq_getElem h]
  exact List.getElem_mem h
theorem allL_no {l : List (Int × ByteArray)} {k : Nat} (hk : k < l.length) (h : okB (l.getD k bkz).1 (l.getD k bkz).2 = false) : allL l = false := by
  have : l.all (fun x => okB x.1 x.2) = false := by
    rw [List.all_eq_false]
    exact ⟨_, getD_mem hk, by show ¬ okB (l.getD k bkz).1 (l.getD k bkz).2 = true; rw [h]; decide⟩
  simp [allL, this]
theorem allL_yes {l : List (Int × ByteArray)} (h : ∀ k, k < l.length → okB (l.getD k bkz).1 (l.getD k bkz).2 = true) : allL l = decide (l.length ≤ 6) := by
  have : l.all (fun x => okB x.1 x.2) = true := by
    rw [List.all_eq_true]
    intro x hx
    obtain ⟨k, hk, rfl⟩ := List.getElem_of_mem hx
    have := h k hk
    rw [List.getD_eq_getElem?_getD, List.getElem?_eq_getElem hk] at this
    exact this
  simp [allL, this]
theorem allL_at {l : List (Int × ByteArray)} (h : allL l = true) {k : Nat} (hk : k < l.length) : okB (l.getD k bkz).1 (l.getD k bkz).2 = true := by
  cases hb : okB (l.getD k bkz).1 (l.getD k bkz).2
  · rw [allL_no hk hb] at h
    cases h
  · rfl
theorem allL_len {l : List (Int × ByteArray)} (h : allL l = true) : l.length ≤ 6 := by
  rw [allL_yes (fun k hk => allL_at h hk)] at h
  simpa using h
theorem tapN_size {l : List (Int × ByteArray)} (h : allL l = true) : ∀ k, k ≤ l.length → (tapN l k).size ≤ 44 * k := by
  intro k
  induction k with
  | zero => intro _; exact Nat.le_refl _
  | succ k ih =>
    intro hk
    have h1 := ih (by omega)
    have h2 := ((okB_iff _ _).1 (allL_at h (show k < l.length by omega))).2
    show (tapN l k ++ txtB (l.getD k bkz).1 (l.getD k bkz).2).size ≤ _
    rw [ByteArray.size_append, txtB_size]
    omega
set_option maxRecDepth 100000 in
set_option maxHeartbeats 2000000 in
theorem bkall_spec (a : Option Addr) (cap : Nat) (l : List (Int × ByteArray)) (w : World) (h : BkR w a l) (hl : l.length ≤ 1048576) (hs : ∀ x ∈ l, x.2.size ≤ maxLen) :
    Calls Tryd.prog 159 #[.slice a l.length cap] w fun e w' => e = .returned (.bool (allL l)) ∧ Below w.heap.size w w' := by
  have hno : Hid (∀ k, k < l.length → okB (l.getD k bkz).1 (l.getD k bkz).2 = false → allL l = false) := fun k hk => allL_no hk
  have hyes : Hid ((∀ k, k < l.length → okB (l.getD k bkz).1 (l.getD k bkz).2 = true) → allL l = decide (l.length ≤ 6)) := fun h => allL_yes h
  have hsz : Hid (∀ k, k < l.length → (l.getD k bkz).2.size ≤ maxLen) := fun k hk => hs _ (getD_mem hk)
  clear hs
  replace h := hid h
  obtain ⟨Q, hQ⟩ : ∃ Q, allL l = Q := ⟨_, rfl⟩
  rw [hQ] at hno hyes ⊢
  clear hQ
  go_enter Tryd.func159, Tryd.ntmps159
  go_wp2
  go_loopw [3] (fun i wr => ∃ k : Nat, k ≤ l.length ∧ i = .int .i64 k ∧ (∀ j, j < k → okB (l.getD j bkz).1 (l.getD j bkz).2 = true) ∧ Below w.heap.size w wr) (fun i _ => l.length - (intOf i).toNat)
  case atStart => exact ⟨0, by omega, rfl, fun j hj => by omega, Below.refl _ _⟩
  case round =>
    obtain ⟨k, hk, rfl, hj, hW⟩ := hrel
    by_cases hlt : k < l.length
    · obtain ⟨g, o, rfl, x1, x2⟩ := (h.out.below hW).at hlt
      have hz := hsz.out k hlt
      cases hb : okB (l.getD k bkz).1 (l.getD k bkz).2
      · have hE := hid (hno.out k hlt hb)
        clear hj hno hyes
        have hO := hid (fun W => bkok_spec (l.getD k bkz).1 (l.getD k bkz).2 W hz)
        rw [hb] at hO
        generalize (l.getD k bkz).1 = F at *
        generalize (l.getD k bkz).2 = D at *
        replace hW := hid hW
        clear hz
        go_wp2_with fail
        refine (hO.out _).mono ?_
        rintro e w2 ⟨rfl, hb2⟩
        have hW2 := hid (new_trans hW.out hb2)
        clear hb2 hW x1 x2
        go_wp2_with fail
        go_ret
        exact ⟨ret_bool hE.out.symm, hW2.out⟩
      · have hj2 : Hid (∀ j, j < k + 1 → okB (l.getD j bkz).1 (l.getD j bkz).2 = true) := fun j hj1 => by
          by_cases e : j = k
          · rw [e]; exact hb
          · exact hj j (by omega)
        clear hj hno hyes
        have hO := hid (fun W => bkok_spec (l.getD k bkz).1 (l.getD k bkz).2 W hz)
        rw [hb] at hO
        generalize (l.getD k bkz).1 = F at *
        generalize (l.getD k bkz).2 = D at *
        replace hW := hid hW
        clear hz
        go_wp2_with fail
        refine (hO.out _).mono ?_
        rintro e w2 ⟨rfl, hb2⟩
        have hW2 := hid (new_trans hW.out hb2)
        clear hb2 hW x1 x2
        go_wp2_with fail
        go_roundw
        case rel => exact ⟨k + 1, by omega, by go_num, hj2.out, hW2.out⟩
        case measure => simp [intOf]; omega
    · obtain rfl : k = l.length := by omega
      have hE := hid (hyes.out hj)
      replace hW := hid hW
      clear hj hno hyes
      go_wp2_with fail
      go_ret
      exact ⟨ret_bool (by rw [hE.out, Bool.eq_iff_iff]; simp; try omega), hW.out⟩
end Go.Proofs.YtifcdojaocndhaaDoor

/- Blocks that are read off a text: the specification. -/
namespace Go.Proofs.YtifcdojaocndhaaDoor
open Go.ChangeShapes Go.WideShapes Go.ChangeAt Go.RowKit
set_option linter.unusedVariables false
set_option linter.unusedSimpArgs false

def bkL (l : List (Int × ByteArray)) : List Value := l.flatMap fun x => [.int .i64 x.1, .string x.2]
theorem bkL_snoc (l : List (Int × ByteArray)) (f : Int) (d : ByteArray) : bkL (l ++ [(f, d)]) = bkL l ++ [.int .i64 f, .string d] := by simp [bkL]
def rdL (t : ByteArray) : Nat → Int → List (Int × ByteArray) → List (Int × ByteArray) × Int
  | 0, _, acc => (acc, 0)
  | f + 1, a, acc => if a < (t.size : Int) then (if (tkB t a).2 ≠ 0 then ([], (tkB t a).2) else if acc.length = 6 then ([], 6) else rdL t f (tkB t a).1.1.2 (acc ++ [(tkB t a).1.2])) else (acc, 0)
def rd2 (t : ByteArray) : List (Int × ByteArray) × Int := if 65536 < t.size then ([], 2) else rdL t (t.size + 1) 0 []
theorem tkB_ok {t : ByteArray} {a : Int} (h : (tkB t a).2 = 0) : (tkB t a).1.1.1 = t ∧ a + 2 ≤ (tkB t a).1.1.2 ∧ (tkB t a).1.1.2 ≤ t.size ∧ 0 ≤ a := by
  have hz : (takeV t a 2).2.2 = 0 → (takeV t a 2).1.1 = t ∧ 0 ≤ a ∧ (takeV t a 2).1.2 = a + 2 := fun h => ⟨(takeV_size t a 2 h).2.1, (takeV_size t a 2 h).2.2.1, (takeV_size t a 2 h).2.2.2.2.1⟩
  unfold tkB at h ⊢
  split at h
  · cases h
  · rename_i h0
    rw [if_neg h0]
    split at h
    · rename_i h1; exact absurd h h1
    · rename_i h1
      rw [if_neg h1]
      obtain ⟨z1, z2, z3⟩ := hz (Decidable.not_not.1 h1)
      split at h
      · rename_i h2; exact absurd h h2
      · rename_i h2
        rw [if_neg h2]
        obtain ⟨n, hn, _⟩ := wordOf_nat (takeV t a 2).2.1
        have hy := takeV_size (takeV t a 2).1.1 (takeV t a 2).1.2 n
        rw [← hn] at hy
        obtain ⟨y1, y2, y3, y4, y5, _⟩ := hy (Decidable.not_not.1 h2)
        split at h
        · rename_i h3; exact absurd h h3
        · rename_i h3
          rw [if_neg h3]
          rw [z1] at y2 y4
          refine ⟨by rw [z1]; exact y2, ?_, ?_, z2⟩
          · show a + 2 ≤ (takeV (takeV t a 2).1.1 (takeV t a 2).1.2 (wordOf (takeV t a 2).2.1)).1.2
            rw [y5, z3]
            omega
          · show (takeV (takeV t a 2).1.1 (takeV t a 2).1.2 (wordOf (takeV t a 2).2.1)).1.2 ≤ _
            rw [y5]
            omega
theorem own_belowU {W W' : World} {lo n z : Nat} {e : TypeId} {v : Value} {xs : List Value} (h : W.ownsRow lo e z v n xs) (hb : Below W.heap.size W W') : W'.ownsRow lo e z v n xs :=
  h.kept (row := none) ⟨hb.os, hb.tape, hb.output, hb.size, fun k hk _ => hb.block k hk⟩ (by cases h1 : v.ownBlock; exact .inl rfl; exact .inr (by simp))
/-- while blocks are read -/
structure RdS (w W : World) (t : ByteArray) (a : Int) (v : Value) (acc : List (Int × ByteArray)) : Prop where
  q5 : Blk W (w.heap.size + 1) (curA t a)
  own : W.ownsRow w.heap.size 75 2 v acc.length (bkL acc)
  ne : v.ownBlock ≠ some (w.heap.size + 1)
  bel : Below w.heap.size w W
theorem RdS.below {w W W' : World} {t : ByteArray} {a : Int} {v : Value} {acc : List (Int × ByteArray)} (h : RdS w W t a v acc) (hb : Below W.heap.size W W') : RdS w W' t a v acc :=
  ⟨h.q5.below hb h.q5.lt, own_belowU h.own hb, h.ne, h.bel.trans (hb.mono h.bel.size)⟩
def rdM (W : World) (b n : Nat) : Nat := match W.cell? ⟨b, 1, none⟩ with
  | some (.int _ a) => ((n : Int) - a).toNat
  | _ => 0
theorem rdM_at {W : World} {b n : Nat} {t : ByteArray} {a : Int} (h : Blk W b (curA t a)) : rdM W b n = ((n : Int) - a).toNat := by
  have := h.cell 1
  unfold rdM
  rw [this]
  rfl
theorem infoBk : (Tryd.prog.info? 75).map (fun i => (i.zero, i.size, i.bytes)) = some (some (.agg #[.int .i64 0, .string ⟨#[]⟩]), 2, 24) := by kernel_rfl
end Go.Proofs.YtifcdojaocndhaaDoor
