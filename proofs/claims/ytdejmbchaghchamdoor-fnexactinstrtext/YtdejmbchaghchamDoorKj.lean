/- An instruction's text, as the program writes it. -/
import Derived.Test.YtdejmbchaghchamDoorKb
import Derived.Test.YtdejmbchaghchamDoorIh
import Derived.Test.YtdejmbchaghchamDoorKi
import Derived.Test.YtdejmbchaghchamDoorSh
import Derived.Lib.LaidTab
namespace Go.Proofs.YtdejmbchaghchamDoor
open Go.ChangeShapes Go.WideShapes Go.ChangeAt Go.RowKit
set_option linter.unusedVariables false
set_option linter.unusedSimpArgs false

/-- the library's table of powers of ten -/
def Pow10 (w : World) : Prop := Lib.TabIs Tryd.prog w "internal/strconv.uint64pow10" .u64 Lib.pow10Tab
theorem gPow : Tryd.prog.globalNamed "internal/strconv.uint64pow10" = some 1 := by kernel_rfl
theorem Pow10.below {w w' : World} (h : Pow10 w) (hb : Below w.heap.size w w') : Pow10 w' := by
  unfold Pow10 Lib.TabIs World.var? at h ⊢
  rw [gPow] at h ⊢
  simp only [Option.bind_some] at h ⊢
  have hlt : 1 < w.heap.size := by
    rcases Nat.lt_or_ge 1 w.heap.size with h' | h'
    · exact h'
    · rw [Array.getElem?_eq_none h'] at h; cases h
  rw [hb.block 1 hlt]
  exact h
theorem below_more (w : World) (k : Nat) (os : Array Obj) : Below w.heap.size w (Go.Sort.grow (w.drewN k) os) :=
  ⟨rfl, rfl, rfl, by show w.heap.size ≤ (w.heap ++ os).size; rw [Array.size_append]; omega, fun j hj => by
    show (w.heap ++ os)[j]? = w.heap[j]?
    rw [Array.getElem?_append, if_pos hj]⟩
theorem itoa_impl (n : Nat) (w : World) (h : n < 1000) (hT : Pow10 w) : Calls Tryd.prog 42 #[.int .i64 (n : Int)] w fun e w' => e = .returned (.string (digB n)) ∧ Below w.heap.size w w' := by
  refine (Tryd.strconv_Itoa (n : Int) (by omega) (by omega) w hT).mono ?_
  rintro e w' ⟨rfl, k, os, rfl⟩
  refine ⟨ret_str ?_, below_more w k os⟩
  unfold digB Lib.itoa
  rw [if_neg (by omega), Int.toNat_natCast]
def numA (A B N o : Nat) : Nat := if o = 1 then A else if o = 2 then B else N
def txtL (k A B N j : Nat) : List ByteArray := kdW k :: ((offsK (kdN k)).take j).map fun o => digB (numA A B N o)
theorem txtL_len (k A B N j : Nat) (h : j ≤ (offsK (kdN k)).length) : (txtL k A B N j).length = j + 1 := by simp [txtL]; omega
theorem txtL_succ {k A B N j o : Nat} (h : (offsK (kdN k))[j]? = some o) : txtL k A B N (j + 1) = txtL k A B N j ++ [digB (numA A B N o)] := by
  have hj := (List.getElem?_eq_some_iff.1 h).1
  have ho : (offsK (kdN k))[j] = o := (List.getElem?_eq_some_iff.1 h).2
  simp [txtL, List.take_succ_eq_append_getElem hj, ho]
theorem offs_mem : ∀ k, k < 24 → (offsK (kdN k)).length ≤ 2 ∧ ∀ o ∈ offsK (kdN k), o = 1 ∨ o = 2 ∨ o = 3 := by decide +kernel
theorem join_text (k A B N : Nat) (hk : k < 24) : (⟨(Lib.join ((txtL k A B N (offsK (kdN k)).length).map (·.data.toList)) [32]).toArray⟩ : ByteArray) = textB k A B N := by
  unfold txtL textB offsK
  rcases kd_offs k hk with ⟨g1, g2, g3⟩ | ⟨g1, g2, g3⟩ | ⟨g1, g2, g3⟩ | ⟨g1, g2, g3⟩ | ⟨g1, g2, g3⟩
  all_goals
    rw [g1, g2, g3]
    apply ByteArray.ext
    simp [Lib.join_cons, Lib.joinTail, numA, spB, ByteArray.data_append]
def text2 (o a b n l : Int) : Value := if okI o a b n l = true then .tuple #[.string (textB o.toNat a.toNat b.toNat n.toNat), .int .i64 0] else .tuple #[.string ⟨#[]⟩, .int .i64 1]
/-- while the words of an instruction are gathered: j numbers are there -/
structure TSt (w W : World) (B0 k A B N : Nat) (l : Int) (pg j : Nat) (u : Value) : Prop where
  q0 : Blk W w.heap.size (insA k A B N l)
  own : W.ownsRow B0 9 1 u (1 + j) ((txtL k A B N j).map Value.string)
  ptr : ∀ i, i < (offsK (kdN k)).length → W.cell? ⟨pg, i, none⟩ = some (ptrV w.heap.size ((offsK (kdN k)).getD i 0))
  ne : 0 < (offsK (kdN k)).length → u.ownBlock ≠ some pg
  bel : Below w.heap.size w W
  far : w.heap.size < B0
theorem TSt.below {w W W' : World} {B0 k A B N : Nat} {l : Int} {pg j : Nat} {u : Value} (h : TSt w W B0 k A B N l pg j u) (hb : Below W.heap.size W W') : TSt w W' B0 k A B N l pg j u :=
  ⟨h.q0.below hb h.q0.lt, own_below h.own hb, fun i hi => cell_kept hb (h.ptr i hi), h.ne, h.bel.trans (hb.mono h.bel.size), h.far⟩
theorem TSt.step {w W w2 : World} {B0 k A B N : Nat} {l : Int} {pg j g c o : Nat} {u : Value} {ob : Obj} (h : TSt w W B0 k A B N l pg j u) (hj : (offsK (kdN k))[j]? = some o)
    (ho : w2.ownsRow B0 9 1 (.slice (some ⟨g, 0, none⟩) (1 + j + 1) c) (1 + j + 1) ((txtL k A B N j).map Value.string ++ [.string (digB (numA A B N o))])) (hg : (W.alloc ob).grownBy w2 u.ownBlock) (hat : u.ownBlock = some g ∨ g = (W.alloc ob).heap.size) : TSt w w2 B0 k A B N l pg (j + 1) (.slice (some ⟨g, 0, none⟩) (1 + j + 1) c) := by
  have hlt : ∀ k, u.ownBlock = some k → B0 ≤ k := fun k hk => (h.own.lt k hk).1
  have hlen := (List.getElem?_eq_some_iff.1 hj).1
  have hp0 := World.block_lt_of_cell? W _ (h.ptr j hlen)
  have hp1 : pg < W.heap.size := hp0
  have hfar := h.far
  have hsz := h.bel.size
  refine ⟨(h.q0.alloc ob).grown hg (fun e => ?_), ?_, fun i hi => ?_, fun hp e => ?_, (h.bel.alloc h.bel.size ob).grown hg (by simp; omega) (fun k hk => by have := hlt k hk; omega), h.far⟩
  · have := hlt _ e.symm
    omega
  · have e : 1 + j + 1 = 1 + (j + 1) := by omega
    rw [txtL_succ hj, List.map_append]
    rw [e] at ho ⊢
    exact ho
  · have h1 := h.ptr i hi
    have e1 : (W.alloc ob).heap[pg]? = W.heap[pg]? := Below.heap_alloc _ _ _ hp1
    have e2 : w2.heap[pg]? = (W.alloc ob).heap[pg]? := hg.block pg (by simp; omega) (fun e => h.ne (by omega) e.symm)
    rw [World.cell?_of_block (w := W) (a := ⟨pg, i, none⟩) (e2.trans e1)]
    exact h1
  · have e1 : g = pg := by simpa [Value.ownBlock] using e
    rcases hat with ha | ha
    · exact h.ne (by omega) (by rw [ha, e1])
    · rw [World.size_alloc] at ha
      omega
theorem TSt.num {w W : World} {B0 k A B N : Nat} {l : Int} {pg j : Nat} {u : Value} (h : TSt w W B0 k A B N l pg j u) {o : Nat} (ho : o = 1 ∨ o = 2 ∨ o = 3) : W.cell? ⟨w.heap.size, o, none⟩ = some (.int .i64 (numA A B N o : Nat)) := by
  rw [h.q0.cell o]
  rcases ho with rfl | rfl | rfl <;> rfl
theorem TSt.start {w w1 w3 : World} {k A B N : Nat} {l : Int} {pv : Value} {o1 : Obj} (q : Blk w1 w.heap.size (insA k A B N l)) (hb1 : Below w.heap.size w w1)
    (hp : w3.ownsRow (((w1.alloc o1).alloc (.cells #[.string (kdW k)] 9)).heap.size + 1) 64 1 pv (offsK (kdN k)).length ((offsK (kdN k)).map (ptrV w.heap.size)))
    (hb : Below ((w1.alloc o1).alloc (.cells #[.string (kdW k)] 9)).heap.size ((w1.alloc o1).alloc (.cells #[.string (kdW k)] 9)) w3) :
    ∃ pa pc pg, pv = .slice pa (offsK (kdN k)).length pc ∧ (0 < (offsK (kdN k)).length → pa = some ⟨pg, 0, none⟩) ∧ TSt w w3 w1.heap.size k A B N l pg 0 (.slice (some ⟨w1.heap.size + 1, 0, none⟩) 1 1) := by
  have hs1 : (w1.alloc o1).heap.size = w1.heap.size + 1 := by simp
  have hs2 : ((w1.alloc o1).alloc (.cells #[.string (kdW k)] 9)).heap.size = w1.heap.size + 2 := by simp
  have q2 : Blk ((w1.alloc o1).alloc (.cells #[.string (kdW k)] 9)) w.heap.size (insA k A B N l) := (q.alloc _).alloc _
  have own2 : ((w1.alloc o1).alloc (.cells #[.string (kdW k)] 9)).ownsRow w1.heap.size 9 1 (.slice (some ⟨w1.heap.size + 1, 0, none⟩) 1 1) 1 [.string (kdW k)] := by
    have := World.ownsRow_lit (base := w1.heap.size) (size := 1) (e := 9) (w1.alloc o1) #[.string (kdW k)] 1 (by rw [hs1]; omega) (by decide) rfl
    rw [hs1] at this
    exact this
  have hbel : Below w.heap.size w ((w1.alloc o1).alloc (.cells #[.string (kdW k)] 9)) := (hb1.alloc hb1.size _).alloc (by have := hb1.size; simp; omega) _
  have hq := q.lt
  rcases hp.2 with ⟨rfl, h0⟩ | ⟨pg, cap, cur, rfl, hlo, _, _⟩
  · refine ⟨none, 0, 0, by rw [h0], fun h => by omega, ⟨q2.below hb q2.lt, own_below own2 hb, fun i hi => by omega, fun h => by omega, hbel.trans (hb.mono hbel.size), hq⟩⟩
  · refine ⟨some ⟨pg, 0, none⟩, cap, pg, rfl, fun _ => rfl, ⟨q2.below hb q2.lt, own_below own2 hb, fun i hi => ?_, fun h e => ?_, hbel.trans (hb.mono hbel.size), hq⟩⟩
    · rw [hp.cellAt i (by omega)]
      simp [List.getElem?_eq_getElem hi, List.getD_eq_getElem?_getD]
    · have : w1.heap.size + 1 = pg := by simpa [Value.ownBlock] using e
      rw [hs2] at hlo
      omega
theorem infoS1 : (Tryd.prog.info? 9).map (fun i => (i.zero, i.size, i.bytes)) = some (some (.string ⟨#[]⟩), 1, 16) := by kernel_rfl
theorem textB_size (k A B N : Nat) (hk : k < 24) (hA : A < 256) (hB : B < 256) (hN : N < 256) : (textB k A B N).size ≤ 100 := by
  have sD := fun n (h : n < 256) => digB_size n (Nat.lt_of_lt_of_le h (by decide))
  have sA := sD A hA
  have sB := sD B hB
  have sN := sD N hN
  have sW := kdW_size k hk
  have sp : spB.size = 1 := rfl
  have s0 : (⟨#[]⟩ : ByteArray).size = 0 := rfl
  unfold textB
  simp only [ByteArray.size_append]
  repeat' split
  all_goals simp only [ByteArray.size_append, sp, s0]; omega
theorem join_impl (k A B N g c : Nat) (w : World) (hk : k < 24) (hA : A < 256) (hB : B < 256) (hN : N < 256)
    (hcells : ∀ (j : Nat) x, (txtL k A B N (offsK (kdN k)).length)[j]? = some x → w.cell? ⟨g, j, none⟩ = some (.string x)) (hbk : g < w.heap.size) (hcap : (txtL k A B N (offsK (kdN k)).length).length ≤ c) :
    Calls Tryd.prog 43 #[.slice (some ⟨g, 0, none⟩) (txtL k A B N (offsK (kdN k)).length).length c, .string ⟨#[32]⟩] w fun e w' => e = .returned (.string (textB k A B N)) ∧ Below w.heap.size w w' := by
  have hj := join_text k A B N hk
  have hs := textB_size k A B N hk hA hB hN
  rw [← hj] at hs
  refine (Tryd.strings_Join g 0 c (txtL k A B N (offsK (kdN k)).length) ⟨#[32]⟩ w (fun j x hx => by rw [Nat.zero_add]; exact hcells j x hx) hbk (by rw [txtL_len _ _ _ _ _ (Nat.le_refl _)]; have := (offs_mem k hk).1; omega) hcap ?_).mono ?_
  · have e : ∀ l : List UInt8, (⟨l.toArray⟩ : ByteArray).size = l.length := fun l => by simp [ByteArray.size]
    rw [e] at hs
    exact Nat.le_trans hs (by decide)
  · rintro e w' ⟨rfl, hb⟩
    exact ⟨ret_str hj, hb⟩
set_option maxRecDepth 100000 in
theorem text_impl (o a b n l : Int) (w : World) (hK : Kinds w) (hT : Pow10 w) :
    Calls Tryd.prog 22 #[insV o a b n l] w fun e w' => e = .returned (text2 o a b n l) ∧ Below w.heap.size w w' := by
  obtain ⟨i0, hi0, hz0, hz1, hz2⟩ := info_parts infoS1
  have hb0 := hid ((Below.refl w.heap.size w).alloc (Nat.le_refl _) (.cells (insA o a b n l) 24))
  have hq0 := hid (Blk.new w (insA o a b n l) 24)
  replace hK := hid hK
  replace hT := hid hT
  cases hok : okI o a b n l
  · have e : text2 o a b n l = .tuple #[.string ⟨#[]⟩, .int .i64 1] := by unfold text2; rw [hok]; rfl
    rw [e]
    clear e
    go_enter Tryd.func22, Tryd.ntmps22
    go_wp2_with fail
    refine (insok_impl _ _ _ _ _ _ (hK.out.below hb0.out)).mono ?_
    rintro e w1 ⟨rfl, hb⟩
    rw [hok]
    have hb1 := hid (new_trans hb0.out hb)
    clear hb hb0 hq0
    go_wp2
    go_ret2
    exact ⟨rfl, hb1.out⟩
  obtain ⟨h1, h2, h3, h4, h5⟩ := okI_bd hok
  obtain ⟨k, rfl⟩ : ∃ X : Nat, o = (X : Int) := ⟨o.toNat, by omega⟩
  obtain ⟨A, rfl⟩ : ∃ X : Nat, a = (X : Int) := ⟨a.toNat, by omega⟩
  obtain ⟨B, rfl⟩ : ∃ X : Nat, b = (X : Int) := ⟨b.toNat, by omega⟩
  obtain ⟨N, rfl⟩ : ∃ X : Nat, n = (X : Int) := ⟨n.toNat, by omega⟩
  have hk : k < 24 := by omega
  have e : text2 k A B N l = .tuple #[.string (textB k A B N), .int .i64 0] := by unfold text2; rw [hok]; rfl
  rw [e]
  clear e
  have hj := hid (join_text k A B N hk)
  have hm := hid (offs_mem k hk)
  have hlen : (offsK (kdN k)).length ≤ 2 := (offs_mem k hk).1
  obtain ⟨n0, hn0⟩ : ∃ n0, (offsK (kdN k)).length = n0 := ⟨_, rfl⟩
  rw [hn0] at hlen
  rw [hn0] at hj
  replace hn0 := hid hn0
  go_enter Tryd.func22, Tryd.ntmps22
  go_wp2_with fail
  refine (insok_impl _ _ _ _ _ _ (hK.out.below hb0.out)).mono ?_
  rintro e w1 ⟨rfl, hb⟩
  rw [hok]
  have hb1 := hid (new_trans hb0.out hb)
  have hq1 := hid (hq0.out.below hb hq0.out.lt)
  clear hb hb0 hq0 hok
  have x1 := hq1.out.cell
  have z1 := hq1.out.lt
  obtain ⟨y0, y1, y2, y3, y4⟩ := (hK.out.below hb1.out) k hk
  go_wp2_with fail
  clear x1 y0 y1 y2 y3 y4
  refine (places_impl k w.heap.size _ hk).mono ?_
  rintro e w3 ⟨pv, rfl, hown, hb⟩
  obtain ⟨pa, pc, pg, rfl, hpa, hS⟩ := TSt.start hq1.out hb1.out hown hb
  rw [hn0.out] at hpa ⊢
  replace hpa := hid hpa
  replace hS := hid hS
  clear hb hown hb1 hq1
  go_wp2
  go_loopw [5, 21] (fun u i wr => ∃ j : Nat, j ≤ n0 ∧ i = .int .i64 j ∧ TSt w wr w1.heap.size k A B N l pg j u) (fun _ i _ => n0 - (intOf i).toNat)
  case atStart => exact ⟨0, by omega, rfl, hS.out⟩
  case round =>
    obtain ⟨j, hj1, rfl, hR⟩ := hrel
    by_cases hlt : j < n0
    · have hpa' := hpa.out (by omega)
      subst hpa'
      obtain ⟨p, hp⟩ : ∃ p, (offsK (kdN k))[j]? = some p := ⟨_, List.getElem?_eq_getElem (by rw [hn0.out]; exact hlt)⟩
      have hpm : p = 1 ∨ p = 2 ∨ p = 3 := hm.out.2 p (List.mem_of_getElem? hp)
      have hc1 := hR.ptr j (by rw [hn0.out]; exact hlt)
      rw [List.getD_eq_getElem?_getD, hp, Option.getD_some] at hc1
      have hc2 := hR.num hpm
      have hvb : numA A B N p < 256 := by unfold numA; split; omega; split <;> omega
      have hstep : Hid (∀ W w2 g c ob, TSt w W w1.heap.size k A B N l pg j u5 → w2.ownsRow w1.heap.size 9 1 (.slice (some ⟨g, 0, none⟩) (1 + j + 1) c) (1 + j + 1) ((txtL k A B N j).map Value.string ++ [.string (digB (numA A B N p))]) → (W.alloc ob).grownBy w2 u5.ownBlock → (u5.ownBlock = some g ∨ g = (W.alloc ob).heap.size) → TSt w w2 w1.heap.size k A B N l pg (j + 1) (.slice (some ⟨g, 0, none⟩) (1 + j + 1) c)) := fun W w2 g c ob h1 h2 h3 h4 => h1.step hp h2 h3 h4
      generalize numA A B N p = v at *
      unfold ptrV at hc1
      have hB := hid hR.bel
      replace hR := hid hR
      clear hpa hp hpm hS
      obtain ⟨D, hD⟩ : ∃ D, digB v = D := ⟨_, rfl⟩
      rw [hD] at hstep
      replace hD := hid hD
      go_wp2_with (first | (go_at_call 42; refine (itoa_impl v _ (by omega) (hT.out.below hB.out)).mono ?_; rintro e W2 ⟨rfl, hb2⟩; rw [hD.out]; have hR2 := hid (hR.out.below hb2); clear hb2 hR hc1 hc2 hB) | (at_builtin; refine wpList_append_lies _ rfl _ _ 60 rfl w1.heap.size 9 i0 _ 1 16 Tryd.underlying60 hi0 hz0 hz1 hz2 rfl (by omega) _ (1 + j) ((txtL k A B N j).map Value.string) rfl (hR2.out.own.alloc _) ⟨_, 0, none⟩ 1 1 [.string D] rfl rfl (World.news_of_block (cs := #[.string D]) (t := 9) (fr := (0, 0)) (heap_alloc_new _ _)) (by simp [Value.oneCell']) (by omega) (by unfold maxLen; omega) (by omega) (by obtain ⟨_, _, _, h1, h2⟩ := hR2.out.own.form (by omega); simp; omega) _ rfl ?_; intro g2 c2 w2 ho hg hat hlt2; have hR3 := hid (hstep.out _ _ _ _ _ hR2.out ho hg hat); clear ho hg hat hlt2 hR2 hstep))
      go_roundw
      case rel => exact ⟨j + 1, by omega, by go_num, hR3.out⟩
      case measure => simp [intOf]; omega
    · obtain rfl : j = n0 := by omega
      obtain ⟨g, cap, hv, hg0, hg1⟩ := hR.own.form (by omega)
      have hcap : 1 + j ≤ cap := by
        rcases hR.own.2 with ⟨_, h0⟩ | ⟨g', cap', cur, hv', _, _, hc, _⟩
        · omega
        · rw [hv] at hv'
          injection hv' with _ _ e
          omega
      have hL : 1 + j = (txtL k A B N j).length := by rw [txtL_len _ _ _ _ _ (by rw [hn0.out]; exact Nat.le_refl _)]; omega
      have hown := hR.own
      rw [hL] at hv hcap hown
      rw [hv] at hown
      subst hv
      have hB := hid hR.bel
      have hcells : Hid (∀ (i : Nat) x, (txtL k A B N j)[i]? = some x → wr.cell? ⟨g, i, none⟩ = some (.string x)) := fun i x hx => by
        have hi := (List.getElem?_eq_some_iff.1 hx).1
        rw [hown.cellAt i (by omega), List.getElem?_map, hx]
        rfl
      have hJ : Hid (∀ W, Below wr.heap.size wr W → Calls Tryd.prog 43 #[.slice (some ⟨g, 0, none⟩) (txtL k A B N j).length cap, .string ⟨#[32]⟩] W fun e w' => e = .returned (.string (textB k A B N)) ∧ Below W.heap.size W w') := fun W hW => by
        have := join_impl k A B N g cap W hk (by omega) (by omega) (by omega) (fun i x hx => cell_kept hW (hcells.out i x (by rw [hn0.out] at hx; exact hx))) (by have := hW.size; omega) (by rw [hn0.out]; exact hcap)
        rw [hn0.out] at this
        exact this
      clear hR hown hcells hpa hS
      go_wp2_with fail
      refine (hJ.out _ (Below.refl _ _)).mono ?_
      rintro e W2 ⟨rfl, hb2⟩
      have hb3 := hid (new_trans hB.out hb2)
      clear hb2 hB
      go_wp2
      go_ret2
      exact ⟨rfl, hb3.out⟩
end Go.Proofs.YtdejmbchaghchamDoor
