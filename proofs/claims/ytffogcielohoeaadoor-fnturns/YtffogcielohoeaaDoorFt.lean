/- Plain facts of turns: eight times about, or nine times through the carry, a byte is as it was; a shift doubles or halves. -/
import Derived.Test.YtffogcielohoeaaDoorFa
import Derived.Test.YtffogcielohoeaaDoorPk
namespace Go.Proofs.YtffogcielohoeaaDoor
set_option linter.unusedVariables false

/-- a byte and a carry, as one number, turned once -/
def stp (op s : Nat) : Nat := Nat.add (turnV op (Nat.mod s 256) (Nat.div s 256)) (Nat.mul 256 (Nat.land (turnF op (Nat.mod s 256) (Nat.div s 256)) 1))
/-- .. and n times -/
def stI (op s n : Nat) : Nat := Nat.rec s (fun _ t => stp op t) n
theorem stI_succ (op s n : Nat) : stI op s (n + 1) = stp op (stI op s n) := rfl
theorem st0 : allB 512 (fun s => Nat.beq (Nat.mod (stI 0 s 8) 256) (Nat.mod s 256)) = true := by decide +kernel
theorem st1 : allB 512 (fun s => Nat.beq (Nat.mod (stI 1 s 8) 256) (Nat.mod s 256)) = true := by decide +kernel
theorem st2 : allB 512 (fun s => Nat.beq (stI 2 s 9) s) = true := by decide +kernel
theorem st3 : allB 512 (fun s => Nat.beq (stI 3 s 9) s) = true := by decide +kernel

theorem turnO_lt (o a : Nat) (ha : a < 256) : turnO o a < 2 ^ 8 := by
  unfold turnO
  cases Nat.beq (Nat.land o 1) 1
  · exact Nat.lt_of_le_of_lt (Nat.div_le_self a 128) ha
  · exact Nat.lt_trans (bit_lt a) (by decide)
theorem turnF_lt (o a c : Nat) (ho : o < 8) (ha : a < 256) : turnF o a c < 256 := Nat.or_lt_two_pow (n := 8) (szpN_lt _ (turnV_lt o a c ho)) (turnO_lt o a ha)

/-- what n turns have made of a and f: a byte V and flags G -/
def Turned (op a f n V G : Nat) : Prop := V < 256 ∧ G < 256 ∧ Nat.add V (Nat.mul 256 (Nat.land G 1)) = stI op (Nat.add a (Nat.mul 256 (Nat.land f 1))) n
theorem turned_0 (op a f : Nat) (ha : a < 256) (hf : f < 256) : Turned op a f 0 a f := ⟨ha, hf, rfl⟩
theorem turned_s (op a f n V G : Nat) (ho : op < 8) (h : Turned op a f n V G) : Turned op a f (n + 1) (turnW op V G) (turnG op V G) := by
  obtain ⟨h1, h2, h3⟩ := h
  refine ⟨turnV_lt _ _ _ ho, turnF_lt _ _ _ ho h1, ?_⟩
  rw [stI_succ, ← h3]
  have hb := bit_lt G
  have e1 : Nat.mod (Nat.add V (Nat.mul 256 (Nat.land G 1))) 256 = V := by show (V + 256 * Nat.land G 1) % 256 = V; omega
  have e2 : Nat.div (Nat.add V (Nat.mul 256 (Nat.land G 1))) 256 = Nat.land G 1 := by show (V + 256 * Nat.land G 1) / 256 = Nat.land G 1; omega
  unfold stp
  rw [e1, e2]
  rfl
theorem turned_end (op a f V G : Nat) (ho : op < 4) (ha : a < 256) (h : Turned op a f (8 + op / 2) V G) : V = a ∧ (2 ≤ op → Nat.land G 1 = Nat.land f 1) := by
  obtain ⟨h1, h2, h3⟩ := h
  have hb := bit_lt G
  have hf := bit_lt f
  have hs : Nat.add a (Nat.mul 256 (Nat.land f 1)) < 512 := by show a + 256 * Nat.land f 1 < 512; omega
  have h4 : op = 0 ∨ op = 1 ∨ op = 2 ∨ op = 3 := by omega
  rcases h4 with rfl | rfl | rfl | rfl
  · have := Nat.eq_of_beq_eq_true (allB_at st0 _ hs)
    rw [show stI 0 _ (8 + 0 / 2) = stI 0 _ 8 from rfl] at h3
    rw [← h3] at this
    have k : (V + 256 * Nat.land G 1) % 256 = (a + 256 * Nat.land f 1) % 256 := this
    exact ⟨by omega, by omega⟩
  · have := Nat.eq_of_beq_eq_true (allB_at st1 _ hs)
    rw [show stI 1 _ (8 + 1 / 2) = stI 1 _ 8 from rfl] at h3
    rw [← h3] at this
    have k : (V + 256 * Nat.land G 1) % 256 = (a + 256 * Nat.land f 1) % 256 := this
    exact ⟨by omega, by omega⟩
  · have := Nat.eq_of_beq_eq_true (allB_at st2 _ hs)
    rw [show stI 2 _ (8 + 2 / 2) = stI 2 _ 9 from rfl] at h3
    rw [← h3] at this
    have k : V + 256 * Nat.land G 1 = a + 256 * Nat.land f 1 := this
    exact ⟨by omega, by omega⟩
  · have := Nat.eq_of_beq_eq_true (allB_at st3 _ hs)
    rw [show stI 3 _ (8 + 3 / 2) = stI 3 _ 9 from rfl] at h3
    rw [← h3] at this
    have k : V + 256 * Nat.land G 1 = a + 256 * Nat.land f 1 := this
    exact ⟨by omega, by omega⟩
theorem sh_all : allB 256 (fun a => allB 2 fun c => and (Nat.beq (Nat.add (turnV 4 a c) (Nat.mul 256 (Nat.land (turnF 4 a c) 1))) (Nat.mul 2 a)) (Nat.beq (Nat.add (Nat.mul 2 (turnV 7 a c)) (Nat.land (turnF 7 a c) 1)) a)) = true := by decide +kernel
theorem sh_at (a f : Nat) (ha : a < 256) : turnW 4 a f + 256 * Nat.land (turnG 4 a f) 1 = 2 * a ∧ 2 * turnW 7 a f + Nat.land (turnG 7 a f) 1 = a := by
  have h := allB_at (allB_at sh_all a ha) (Nat.land f 1) (bit_lt f)
  rw [Bool.and_eq_true] at h
  exact ⟨Nat.eq_of_beq_eq_true h.1, Nat.eq_of_beq_eq_true h.2⟩
theorem turn8_of (o a f : Nat) (ho : o < 8) (ha : a < 256) (hf : f < 256) : turn8V o a f = .tuple #[.int .i64 (turnW o a f), .int .i64 (turnG o a f), .int .i64 0] := by
  unfold turn8V
  rw [show askB (a : Int) (f : Int) 0 = true from ask_nat a f 0 ha hf (by decide), show inB (o : Int) 0 7 = true by simp [inB]; omega]
  simp
end Go.Proofs.YtffogcielohoeaaDoor
