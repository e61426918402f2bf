/- An instruction's text, as the program writes it. -/
import Derived.Test.YtneagomkohoceaaDoorKbc
import Derived.Test.YtneagomkohoceaaDoorIhc
import Derived.Test.YtneagomkohoceaaDoorKic
import Derived.Test.YtneagomkohoceaaDoorShc
import Derived.Test.YtneagomkohoceaaDoorC26
import Derived.Lib.LaidTab
namespace Go.Proofs.YtneagomkohoceaaDoor
open Go.ChangeShapes Go.WideShapes Go.ChangeAt Go.RowKit
set_option linter.unusedVariables false
set_option linter.unusedSimpArgs false

def numA (A B N o : Nat) : Nat := if o = 1 then A else if o = 2 then B else N
def txtL (k A B N j : Nat) : List ByteArray := kdW k :: ((offsK (kdN k)).take j).map fun o => digB (numA A B N o)
theorem txtL_len (k A B N j : Nat) (h : j ≤ (offsK (kdN k)).length) : (txtL k A B N j).length = j + 1 := by simp [txtL]; omega
theorem txtL_succ {k A B N j o : Nat} (h : (offsK (kdN k))[j]? = some o) : txtL k A B N (j + 1) = txtL k A B N j ++ [digB (numA A B N o)] := by
  have hj := (List.getElem?_eq_some_iff.1 h).1
  have ho : (offsK (kdN k))[j] = o := (List.getElem?_eq_some_iff.1 h).2
  simp [txtL, List.take_succ_eq_append_getElem hj, ho]
theorem offs_mem : ∀ k, k < 24 → (offsK (kdN k)).length ≤ 2 ∧ ∀ o ∈ offsK (kdN k), o = 1 ∨ o = 2 ∨ o = 3 := by decide +kernel
theorem join_text (k A B N : Nat) (hk : k < 24) : (⟨(Lib.join ((txtL k A B N (offsK (kdN k)).length).map (·.data.toList)) [32]).toArray⟩ : ByteArray) = textB k A B N := by
  unfold txtL textB offsK
  rcases kd_offs k hk with ⟨g1, g2, g3⟩ | ⟨g1, g2, g3⟩ | ⟨g1, g2, g3⟩ | ⟨g1, g2, g3⟩ | ⟨g1, g2, g3⟩
  all_goals
    rw [g1, g2, g3]
    apply ByteArray.ext
    simp [Lib.join_cons, Lib.joinTail, numA, spB, ByteArray.data_append]
def text2 (o a b n l : Int) : Value := if okI o a b n l = true then .tuple #[.string (textB o.toNat a.toNat b.toNat n.toNat), .int .i64 0] else .tuple #[.string ⟨#[]⟩, .int .i64 1]
theorem infoS1 : (Tryd.prog.info? 9).map (fun i => (i.zero, i.size, i.bytes)) = some (some (.string ⟨#[]⟩), 1, 16) := by kernel_rfl
theorem textB_size (k A B N : Nat) (hk : k < 24) (hA : A < 256) (hB : B < 256) (hN : N < 256) : (textB k A B N).size ≤ 100 := by
  have sD := fun n (h : n < 256) => digB_size n (Nat.lt_of_lt_of_le h (by decide))
  have sA := sD A hA
  have sB := sD B hB
  have sN := sD N hN
  have sW := kdW_size k hk
  have sp : spB.size = 1 := rfl
  have s0 : (⟨#[]⟩ : ByteArray).size = 0 := rfl
  unfold textB
  simp only [ByteArray.size_append]
  repeat' split
  all_goals simp only [ByteArray.size_append, sp, s0]; omega
theorem join_impl (k A B N g c : Nat) (w : World) (hk : k < 24) (hA : A < 256) (hB : B < 256) (hN : N < 256)
    (hcells : ∀ (j : Nat) x, (txtL k A B N (offsK (kdN k)).length)[j]? = some x → w.cell? ⟨g, j, none⟩ = some (.string x)) (hbk : g < w.heap.size) (hcap : (txtL k A B N (offsK (kdN k)).length).length ≤ c) :
    Calls Tryd.prog 39 #[.slice (some ⟨g, 0, none⟩) (txtL k A B N (offsK (kdN k)).length).length c, .string ⟨#[32]⟩] w fun e w' => e = .returned (.string (textB k A B N)) ∧ Below w.heap.size w w' := by
  have hj := join_text k A B N hk
  have hs := textB_size k A B N hk hA hB hN
  rw [← hj] at hs
  refine (Tryd.strings_Join g 0 c (txtL k A B N (offsK (kdN k)).length) ⟨#[32]⟩ w (fun j x hx => by rw [Nat.zero_add]; exact hcells j x hx) hbk (by rw [txtL_len _ _ _ _ _ (Nat.le_refl _)]; have := (offs_mem k hk).1; omega) hcap ?_).mono ?_
  · have e : ∀ l : List UInt8, (⟨l.toArray⟩ : ByteArray).size = l.length := fun l => by simp [ByteArray.size]
    rw [e] at hs
    exact Nat.le_trans hs (by decide)
  · rintro e w' ⟨rfl, hb⟩
    exact ⟨ret_str hj, hb⟩
theorem pl_of {W : World} {lo k A B N X : Nat} {l : Int} {v : Value} (hown : W.ownsRow lo 95 1 v (offsK (kdN k)).length ((offsK (kdN k)).map (ptrV X))) (q : Blk W X (insA k A B N l)) (hm : ∀ o ∈ offsK (kdN k), o = 1 ∨ o = 2 ∨ o = 3) (hA : A < 256) (hB : B < 256) (hN : N < 256) : PlR W v ((offsK (kdN k)).map (numA A B N)) := by
  rcases hown.2 with ⟨rfl, h0⟩ | ⟨g, cap, cur, rfl, _, _, _⟩
  · exact ⟨none, 0, 0, by rw [List.length_map, h0], fun h => by rw [List.length_map] at h; omega, fun i hi => by rw [List.length_map] at hi; omega⟩
  · refine ⟨some ⟨g, 0, none⟩, g, cap, by rw [List.length_map], fun _ => rfl, fun i hi => ?_⟩
    rw [List.length_map] at hi
    obtain ⟨o, ho⟩ : ∃ o, (offsK (kdN k))[i]? = some o := ⟨_, List.getElem?_eq_getElem hi⟩
    have e : ((offsK (kdN k)).map (numA A B N)).getD i 0 = numA A B N o := by rw [List.getD_eq_getElem?_getD, List.getElem?_map, ho]; rfl
    refine ⟨X, o, ?_, ?_, ?_⟩
    · rw [hown.cellAt i (by omega), List.getElem?_map, ho]
      rfl
    · rw [e, q.cell o]
      rcases hm o (List.mem_of_getElem? ho) with rfl | rfl | rfl <;> rfl
    · rw [e]
      unfold numA
      split
      · omega
      · split <;> omega
set_option maxRecDepth 100000 in
set_option maxHeartbeats 1000000 in
theorem text_impl (o a b n l : Int) (w : World) (hK : Kinds w) (hT : PowT w) :
    Calls Tryd.prog 14 #[insV o a b n l] w fun e w' => e = .returned (text2 o a b n l) ∧ Below w.heap.size w w' := by
  have hb0 := hid ((Below.refl w.heap.size w).alloc (Nat.le_refl _) (.cells (insA o a b n l) 24))
  have hq0 := hid (Blk.new w (insA o a b n l) 24)
  replace hK := hid hK
  replace hT := hid hT
  cases hok : okI o a b n l
  · have e : text2 o a b n l = .tuple #[.string ⟨#[]⟩, .int .i64 1] := by unfold text2; rw [hok]; rfl
    rw [e]
    clear e
    go_enter Tryd.func14, Tryd.ntmps14
    go_wp2_with fail
    refine (insok_impl _ _ _ _ _ _ (hK.out.below hb0.out)).mono ?_
    rintro e w1 ⟨rfl, hb⟩
    rw [hok]
    have hb1 := hid (new_trans hb0.out hb)
    clear hb hb0 hq0
    go_wp2
    go_ret2
    exact ⟨rfl, hb1.out⟩
  obtain ⟨h1, h2, h3, h4, h5⟩ := okI_bd hok
  obtain ⟨k, rfl⟩ : ∃ X : Nat, o = (X : Int) := ⟨o.toNat, by omega⟩
  obtain ⟨A, rfl⟩ : ∃ X : Nat, a = (X : Int) := ⟨a.toNat, by omega⟩
  obtain ⟨B, rfl⟩ : ∃ X : Nat, b = (X : Int) := ⟨b.toNat, by omega⟩
  obtain ⟨N, rfl⟩ : ∃ X : Nat, n = (X : Int) := ⟨n.toNat, by omega⟩
  have hk : k < 24 := by omega
  have e : text2 k A B N l = .tuple #[.string (textB k A B N), .int .i64 0] := by unfold text2; rw [hok]; rfl
  rw [e]
  clear e
  have hm := hid (offs_mem k hk)
  have hA : A < 256 := by omega
  have hB : B < 256 := by omega
  have hN : N < 256 := by omega
  have hJ : Hid (∀ W g c, (∀ (j : Nat) x, (txtL k A B N (offsK (kdN k)).length)[j]? = some x → W.cell? ⟨g, j, none⟩ = some (.string x)) → g < W.heap.size → (txtL k A B N (offsK (kdN k)).length).length ≤ c → Calls Tryd.prog 39 #[.slice (some ⟨g, 0, none⟩) (txtL k A B N (offsK (kdN k)).length).length c, .string ⟨#[32]⟩] W fun e w' => e = .returned (.string (textB k A B N)) ∧ Below W.heap.size W w') := fun W g c h1 h2 h3 => join_impl k A B N g c W hk hA hB hN h1 h2 h3
  have hX : Hid (txtL k A B N (offsK (kdN k)).length = kdW k :: ((offsK (kdN k)).map (numA A B N)).map digB) := by
    unfold txtL Hid
    rw [List.take_of_length_le (Nat.le_refl _), List.map_map]
    rfl
  have hP : Hid (∀ (V W : World), Blk V w.heap.size (insA k A B N l) → Below V.heap.size V W → Calls Tryd.prog 38 #[.agg #[.string (kdW k), .int .i64 (kdN k), .int .i64 (kdA k), .int .i64 (kdB k), .int .i64 (kdT k)], .pointer (some ⟨w.heap.size, 0, none⟩)] W fun r w' => ∃ v, r = .returned v ∧ PlR w' v ((offsK (kdN k)).map (numA A B N)) ∧ Below W.heap.size W w') := fun V W q hb => (places_impl k w.heap.size W hk).mono (by
    rintro e w3 ⟨pv, rfl, hown, hb3⟩
    have q2 := q.below hb q.lt
    exact ⟨pv, rfl, pl_of hown (q2.below hb3 q2.lt) hm.out.2 hA hB hN, hb3⟩)
  have hl2 : ((offsK (kdN k)).map (numA A B N)).length ≤ 100 := by rw [List.length_map]; have := hm.out.1; omega
  go_enter Tryd.func14, Tryd.ntmps14
  go_wp2_with fail
  refine (insok_impl _ _ _ _ _ _ (hK.out.below hb0.out)).mono ?_
  rintro e w1 ⟨rfl, hb⟩
  rw [hok]
  have hb1 := hid (new_trans hb0.out hb)
  have hq1 := hid (hq0.out.below hb hq0.out.lt)
  clear hb hb0 hq0 hok
  have x1 := hq1.out.cell
  have z1 := hq1.out.lt
  obtain ⟨y0, y1, y2, y3, y4⟩ := (hK.out.below hb1.out) k hk
  go_upto_region 4 with fail
  clear x1 y0 y1 y2 y3 y4
  have q4 := hid (Blk.new w1 #[.string (kdW k), .int .i64 (kdN k), .int .i64 (kdA k), .int .i64 (kdB k), .int .i64 (kdT k)] 62)
  have hV1 : Hid (Below w.heap.size w (w1.alloc (.cells #[.string (kdW k), .int .i64 (kdN k), .int .i64 (kdA k), .int .i64 (kdB k), .int .i64 (kdT k)] 62))) := hb1.out.alloc hb1.out.size _
  have hqV := hid (hq1.out.alloc (.cells #[.string (kdW k), .int .i64 (kdN k), .int .i64 (kdA k), .int .i64 (kdB k), .int .i64 (kdT k)] 62))
  generalize w1.alloc (.cells #[.string (kdW k), .int .i64 (kdN k), .int .i64 (kdA k), .int .i64 (kdB k), .int .i64 (kdT k)] 62) = V at *
  refine ti_reg _ V _ w1.heap.size w.heap.size (kdW k) (kdN k) (kdA k) (kdB k) (kdT k) _ rfl rfl q4.out (hT.out.up hV1.out) hl2 (hid (fun W hb => hP.out V W hqV.out hb)) (by simp) ?_
  rintro W ⟨e1, e2, e3, e4⟩ ⟨hbW, hO⟩
  dsimp only at hO
  obtain ⟨g, c, rfl, hlo, hglt, hcap, hcs⟩ := own_cells (ws := kdW k :: ((offsK (kdN k)).map (numA A B N)).map digB) (by simpa [Nat.add_comm] using hO) (by simp)
  have hB2 := hid (new_trans hV1.out hbW)
  rw [hX.out] at hJ
  have hJ2 := hid (hJ.out W g c hcs hglt hcap)
  clear hO hbW hcs hJ hP hX hqV hV1 q4 hq1 hb1 hm hK hT
  simp only [putsA, Act.put, List.setIfInBounds_toArray, List.set_cons_zero, List.set_cons_succ]
  generalize (kdW k :: ((offsK (kdN k)).map (numA A B N)).map digB).length = n at *
  go_wp2_with fail
  refine hJ2.out.mono ?_
  rintro e w3 ⟨rfl, hb3⟩
  have hB3 := hid (new_trans hB2.out hb3)
  clear hb3 hB2 hJ2
  go_wp2
  go_ret2
  exact ⟨rfl, hB3.out⟩
end Go.Proofs.YtneagomkohoceaaDoor
