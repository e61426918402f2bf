/- Plain facts of a write: what is read behind it. -/
import Derived.Test.YtpdngjjbhcfplabMj
import Derived.Test.YtpdngjjbhcfplabMk
import Derived.Test.YtpdngjjbhcfplabMl
namespace Go.Proofs.Ytpdngjjbhcfplab
set_option linter.unusedVariables false

theorem poke_page (M : Mem) (k v : Int) : (pokeM M k v).page = M.page := by unfold pokeM; split <;> rfl
theorem peek_poke {M : Mem} (hok : okM M = true) {k v i : Int} (hk0 : 0 ≤ k) (hk1 : k ≤ 255) (hi0 : 0 ≤ i) (hi1 : i ≤ 255) :
    peekI (pokeM M k v) i = if bankI M.page i = bankI M.page k ∧ i % 64 = k % 64 ∧ 0 ≤ bankI M.page k then v else peekI M i := by
  obtain ⟨h1, h2, h3, h4, h5⟩ := ok_parts hok
  by_cases hk : k < 64
  · have e : bankI M.page k = -1 := by unfold bankI; rw [if_pos hk]
    have e2 : pokeM M k v = M := by unfold pokeM; rw [if_pos hk]
    rw [e2, if_neg (by rw [e]; omega)]
  · have hb := bank_bd h3 (a := k) (by omega)
    have e2 : pokeM M k v = { M with ram := M.ram.set (bankI M.page k).toNat ((M.ram.getD (bankI M.page k).toNat []).set (k % 64).toNat v) } := by unfold pokeM; rw [if_neg hk]
    have hlen := bytes_len (h5 (bankI M.page k).toNat (by omega))
    by_cases hi : i < 64
    · have e : bankI M.page i = -1 := by unfold bankI; rw [if_pos hi]
      rw [if_neg (by rw [e]; omega), e2]
      unfold peekI
      rw [if_pos hi, if_pos hi]
    · have hc := bank_bd h3 (a := i) (by omega)
      rw [e2]
      unfold peekI
      rw [if_neg hi, if_neg hi]
      show ((M.ram.set (bankI M.page k).toNat ((M.ram.getD (bankI M.page k).toNat []).set (k % 64).toNat v)).getD (bankI M.page i).toNat []).getD (i % 64).toNat 0 = _
      by_cases hbb : bankI M.page i = bankI M.page k
      · rw [hbb, List.getD_eq_getElem?_getD (l := M.ram.set _ _), List.getElem?_set_self (by omega), Option.getD_some]
        by_cases hq : i % 64 = k % 64
        · rw [if_pos ⟨rfl, hq, hb.1⟩, hq, List.getD_eq_getElem?_getD, List.getElem?_set_self (by omega), Option.getD_some]
        · rw [if_neg (fun h => hq h.2.1), List.getD_eq_getElem?_getD, List.getElem?_set_ne (by omega), ← List.getD_eq_getElem?_getD]
      · rw [if_neg (fun h => hbb h.1), List.getD_eq_getElem?_getD (l := M.ram.set _ _), List.getElem?_set_ne (by omega), ← List.getD_eq_getElem?_getD]
theorem ask_ok {M : Mem} (hok : okM M = true) {a : Int} (h0 : 0 ≤ a) (h1 : a ≤ 255) : askM M a = 0 := by unfold askM; rw [if_pos hok, if_pos (in_yes h0 h1)]
theorem same_self {M : Mem} (hok : okM M = true) : sameM M M = true := sameM_yes hok hok rfl rfl (by simp) rfl rfl
theorem ok_fit {M : Mem} (hok : okM M = true) : Fit M := by
  obtain ⟨h1, h2, h3, h4, h5⟩ := ok_parts hok
  exact ⟨by have := bytes_len h1; omega, by omega, fun i hi => by have := bytes_len (h5 i hi); omega⟩
end Go.Proofs.Ytpdngjjbhcfplab
