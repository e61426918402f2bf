/- Plain facts of paging: what the law FnPaging asks of memories. -/
import Derived.Test.YtpdngjjbhcfplabMt
import Derived.Test.YtpdngjjbhcfplabMk
namespace Go.Proofs.Ytpdngjjbhcfplab
set_option linter.unusedVariables false

theorem page_0 (M : Mem) (k : Nat) (hk : k < 4) : pageM M (k : Int) = { M with page := (k : Int), screen := 1, locked := false } := by
  unfold pageM
  rcases (by omega : k = 0 ∨ k = 1 ∨ k = 2 ∨ k = 3) with rfl | rfl | rfl | rfl <;> rfl
theorem page_8 (M : Mem) (k : Nat) (hk : k < 4) : pageM M ((k : Int) + 8) = { M with page := (k : Int), screen := 3, locked := false } := by
  unfold pageM
  rcases (by omega : k = 0 ∨ k = 1 ∨ k = 2 ∨ k = 3) with rfl | rfl | rfl | rfl <;> rfl
theorem page_32 (M : Mem) (k : Nat) (hk : k < 4) : pageM M ((k : Int) + 32) = { M with page := (k : Int), screen := 1, locked := true } := by
  unfold pageM
  rcases (by omega : k = 0 ∨ k = 1 ∨ k = 2 ∨ k = 3) with rfl | rfl | rfl | rfl <;> rfl
theorem pageC_0 {M : Mem} {v : Int} (hok : okM M = true) (hl : M.locked = false) (h0 : 0 ≤ v) (h1 : v ≤ 255) : pageC M v = 0 ∧ pageR M v = pageM M v := by
  unfold pageC pageR
  rw [if_pos (ask_ok hok h0 h1), if_pos (ask_ok hok h0 h1), hl]
  exact ⟨rfl, rfl⟩
theorem pageC_12 {M : Mem} {v : Int} (hok : okM M = true) (hl : M.locked = true) (h0 : 0 ≤ v) (h1 : v ≤ 255) : pageC M v = 12 ∧ pageR M v = M := by
  unfold pageC pageR
  rw [if_pos (ask_ok hok h0 h1), if_pos (ask_ok hok h0 h1), hl]
  exact ⟨rfl, rfl⟩
theorem peek_same {A B : Mem} (h1 : A.rom = B.rom) (h2 : A.ram = B.ram) (h3 : A.page = B.page) (a : Int) : peekI A a = peekI B a := by
  unfold peekI
  rw [h1, h2, h3]
/-- what is written above 192 is read there, whatever was paged between -/
theorem paged_back {M : Mem} (hok : okM M = true) {p q : Nat} (hp : p < 4) {r : Int} (hr0 : 0 ≤ r) (hr1 : r < 64) (s1 s2 : Int) (l1 l2 : Bool) (hpg : M.page = (p : Int)) :
    peekI { ({ pokeM M (192 + r) 77 with page := (q : Int), screen := s1, locked := l1 } : Mem) with page := (p : Int), screen := s2, locked := l2 } (192 + r) = 77 := by
  have h : ∀ P : Mem, P.page = (p : Int) → peekI { ({ P with page := (q : Int), screen := s1, locked := l1 } : Mem) with page := (p : Int), screen := s2, locked := l2 } (192 + r) = peekI P (192 + r) := by
    intro P hP
    unfold peekI
    rw [hP]
  rw [h _ (by rw [poke_page, hpg]), peek_poke hok (by omega) (by omega) (by omega) (by omega), if_pos]
  refine ⟨rfl, rfl, ?_⟩
  unfold bankI
  rw [if_neg (by omega), if_neg (by omega), if_neg (by omega)]
  omega
end Go.Proofs.Ytpdngjjbhcfplab
