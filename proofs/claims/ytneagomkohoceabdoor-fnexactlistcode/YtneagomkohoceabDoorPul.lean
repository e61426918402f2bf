/- Slots of a frame that are written in any order. -/
import Derived.Test.YtneagomkohoceabDoorIvl
namespace Go.Proofs.YtneagomkohoceabDoor
set_option linter.unusedVariables false

def putsA (A : Act) : List (Nat × Value) → Act
  | [] => A
  | (i, v) :: t => (putsA A t).put (some i) v
def lookA : List (Nat × Value) → Nat → Option Value
  | [], _ => none
  | (i, v) :: t, k => if i = k then some v else lookA t k
def updA : List (Nat × Value) → Nat → Value → List (Nat × Value)
  | [], _, _ => []
  | (i, u) :: t, k, v => if i = k then (i, v) :: t else (i, u) :: updA t k v
theorem putsA_size (A : Act) : ∀ L, (putsA A L).tmps.size = A.tmps.size := by
  intro L
  induction L with
  | nil => rfl
  | cons x t ih =>
    show ((putsA A t).tmps.setIfInBounds x.1 x.2).size = _
    rw [Array.size_setIfInBounds, ih]
theorem putsA_defers (A : Act) : ∀ L, (putsA A L).defers = A.defers := by
  intro L
  induction L with
  | nil => rfl
  | cons x t ih => exact ih
theorem putsA_get (A : Act) (k : Nat) (hk : k < A.tmps.size) : ∀ L, (putsA A L).tmps.getD k undef = (lookA L k).getD (A.tmps.getD k undef) := by
  intro L
  induction L with
  | nil => rfl
  | cons x t ih =>
    obtain ⟨i, v⟩ := x
    show ((putsA A t).tmps.setIfInBounds i v).getD k undef = ((if i = k then some v else lookA t k).getD _)
    have hs := putsA_size A t
    by_cases e : i = k
    · subst e
      rw [if_pos rfl, Array.getD_eq_getD_getElem?, Array.getElem?_setIfInBounds, if_pos rfl, if_pos (by omega)]
      rfl
    · rw [if_neg e, ← ih, Array.getD_eq_getD_getElem?, Array.getElem?_setIfInBounds, if_neg e, ← Array.getD_eq_getD_getElem?]
theorem put_same (a : Act) (k : Nat) (u v : Value) : (a.put (some k) u).put (some k) v = a.put (some k) v := by
  show ({ a with tmps := (a.tmps.setIfInBounds k u).setIfInBounds k v } : Act) = { a with tmps := a.tmps.setIfInBounds k v }
  congr 1
  apply Array.ext_getElem?
  intro j
  simp only [Array.getElem?_setIfInBounds, Array.size_setIfInBounds]
  split <;> rfl
theorem putsA_put (A : Act) (k : Nat) (v : Value) : ∀ L, (lookA L k).isSome = true → (putsA A L).put (some k) v = putsA A (updA L k v) := by
  intro L
  induction L with
  | nil => intro h; cases h
  | cons x t ih =>
    obtain ⟨i, u⟩ := x
    intro h
    show ((putsA A t).put (some i) u).put (some k) v = putsA A (if i = k then (i, v) :: t else (i, u) :: updA t k v)
    by_cases e : i = k
    · subst e
      rw [if_pos rfl]
      exact put_same _ _ _ _
    · rw [if_neg e]
      have h2 : (lookA t k).isSome = true := by
        have : (lookA ((i, u) :: t) k) = lookA t k := by show (if i = k then some u else lookA t k) = _; rw [if_neg e]
        rw [this] at h
        exact h
      show _ = (putsA A (updA t k v)).put (some i) u
      rw [← ih h2]
      exact (Act.put_comm _ (x := some i) (y := some k) u v (fun d hd => by
        have : i = d := Option.some.inj hd
        subst this
        exact fun e2 => e (Option.some.inj e2).symm))
theorem putsA_self (A : Act) : ∀ (ks : List Nat), putsA A (ks.map fun k => (k, A.tmps.getD k undef)) = A := by
  intro ks
  induction ks with
  | nil => rfl
  | cons k t ih =>
    show (putsA A (t.map fun k => (k, A.tmps.getD k undef))).put (some k) (A.tmps.getD k undef) = A
    rw [ih]
    show ({ A with tmps := A.tmps.setIfInBounds k (A.tmps.getD k undef) } : Act) = A
    have : A.tmps.setIfInBounds k (A.tmps.getD k undef) = A.tmps := by
      apply Array.ext_getElem?
      intro j
      rw [Array.getElem?_setIfInBounds]
      split
      · rename_i e
        subst e
        split
        · rename_i hl
          rw [Array.getElem?_eq_getElem hl]
          rfl
        · rename_i hl
          rw [Array.getElem?_eq_none (by omega)]
      · rfl
    rw [this]
end Go.Proofs.YtneagomkohoceabDoor
