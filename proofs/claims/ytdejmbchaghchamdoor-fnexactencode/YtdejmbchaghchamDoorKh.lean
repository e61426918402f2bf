/- A list that an answer holds, or none: marked, and read again. -/
import Derived.Test.YtdejmbchaghchamDoorIc
import Derived.Test.YtdejmbchaghchamDoorMb
import Derived.Deep.Matrix
import Derived.Lib.SmallJoins
namespace Go.Proofs.YtdejmbchaghchamDoor
open Go.ChangeShapes Go.WideShapes Go.ChangeAt Go.RowKit Go.Joins Go.Deep
set_option linter.unusedVariables false
set_option linter.unusedSimpArgs false

theorem RowA.below {w w' : World} {lo : Nat} {v : Value} {zs : List Int} (h : RowA w lo v zs) (hb : Below w.heap.size w w') : RowA w' lo v zs := by
  rcases h with h | ⟨g, hg, h⟩
  · exact .inl h
  · exact .inr ⟨g, hg, h.kept (hb.block g h.lt)⟩
theorem encR_len (o a b n l : Int) : (encR o a b n l).length ≤ 2 := by
  unfold encR encL
  repeat' split
  all_goals simp
theorem mark0 (a : Option Addr) (c : Nat) (m : Int) (w : World) (hm0 : 0 ≤ m) (hm1 : m ≤ 1000000000) :
    Calls Tryd.prog 17 #[.slice a 0 c, .int .i64 m] w fun e w' => e = .returned (.int .i64 m) ∧ w' = w := by
  go_enter Tryd.func17, Tryd.ntmps17
  go_wp2
  go_loopw [1, 5] (fun q i wr => i = .int .i64 0 ∧ q = .int .i64 m ∧ wr = w) (fun _ i _ => 0)
  case atStart => exact ⟨rfl, rfl, rfl⟩
  case round =>
    obtain ⟨rfl, rfl, rfl⟩ := hrel
    go_wp2
    go_ret
    exact ⟨rfl, rfl⟩
theorem markA (v : Value) (lo : Nat) (m : Int) (zs : List Int) (w : World) (h : RowA w lo v zs) (hlo : lo ≤ w.heap.size) (hl : zs.length ≤ 1000000000) (hm0 : 0 ≤ m) (hm1 : m ≤ 1000000000) :
    Calls Tryd.prog 17 #[v, .int .i64 m] w fun e w' => e = .returned (.int .i64 (m + (zs.length : Int))) ∧ RowA w' lo v (markL m zs.length) ∧ Below lo w w' := by
  rcases h with ⟨rfl, a, c, rfl⟩ | ⟨g, hg, h⟩
  · refine (mark0 a c m w hm0 hm1).mono ?_
    rintro e w' ⟨rfl, rfl⟩
    exact ⟨by simp, .inl ⟨rfl, a, c, rfl⟩, Below.refl _ _⟩
  · refine (markr v g m zs w h hl hm0 hm1).mono ?_
    rintro e w' ⟨rfl, hr, hgr⟩
    exact ⟨rfl, .inr ⟨g, hg, hr⟩, (Below.refl lo w).grown hgr hlo (fun k hk => by cases hk; exact hg)⟩
section
variable {H : Type} {enc : TypeId × Value → H} {P : Program} {w : World} {base : Nat} {held : Bool}
theorem addr_plain {w : World} {a : Addr} {v : Value} (h : w.cell? (a.add 0) = some v) : a = ⟨a.block, a.off, none⟩ := by
  obtain ⟨b, off, spot⟩ := a
  have hspot : spot = none := by simpa [Addr.add] using World.cell?_spot h
  subst hspot
  rfl
theorem add_pl (b off j : Nat) : (⟨b, off, none⟩ : Addr).add j = ⟨b, off + j, none⟩ := by unfold Addr.add; split <;> simp_all
theorem take_gD (zs : List Int) (n i : Nat) (h : i < n) : (zs.take n).getD i 0 = zs.getD i 0 := by
  rw [List.getD_eq_getElem?_getD, List.getD_eq_getElem?_getD, List.getElem?_take, if_pos h]
/-- a slice of ints that comes in reads as numbers -/
theorem ints_in {t e : TypeId} {fuel : Nat} {v : Value} {x : DataW H × List MemPlace} (ht : P.underlying t = some (.slice e)) (he : P.underlying e = some (.int .i64)) (ce : P.cellsOf e = 1)
    (h : DataW.trod enc P w base (fun _ => true) held fuel t [v] = some x) : ∃ zs, RowR w v zs ∧ zs.length ≤ maxLen := by
  rcases open_ints ht he ce h with ⟨hcs, _⟩ | ⟨a, len, cap, zs, hcs, _, hl, hm, hz, _, hcell, hwz⟩
  · refine ⟨[], ?_, Nat.zero_le _⟩
    obtain rfl : v = .slice none 0 0 := by simpa using hcs
    exact RowR.nil w
  · obtain rfl : v = .slice (some a) len cap := by simpa using hcs
    simp only [if_true] at hz
    have hlen : (zs.take len).length = len := by rw [List.length_take]; omega
    refine ⟨zs.take len, ⟨some a, cap, by rw [hlen], ?_⟩, by rw [hlen]; omega⟩
    by_cases h0 : len = 0
    · left
      rw [h0]
      rfl
    · right
      have h1 := hcell 0 (by omega)
      have ha := addr_plain h1
      refine ⟨a.block, a.off, by rw [← ha], fun i hi => ?_⟩
      rw [hlen] at hi
      have h2 := hcell i (by omega)
      rw [ha, add_pl] at h2
      rw [h2, take_gD _ _ _ hi]
end
end Go.Proofs.YtdejmbchaghchamDoor
