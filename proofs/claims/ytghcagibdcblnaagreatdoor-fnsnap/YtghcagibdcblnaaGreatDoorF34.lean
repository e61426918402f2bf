/- The library's contracts at this dump, as the kit's shelf lays them: Builder_String_any. -/
import Derived.Test.YtghcagibdcblnaaGreatDoorProg
import Derived.Shelf.Strings.Builder1
import Derived.Shelf.Bits.Mul64
import Derived.Test.YtghcagibdcblnaaGreatDoorF03
import Derived.Lib.Builder
import Derived.Lib.AppendStr
import Derived.Laws.Externs
import Derived.Deep.DeepCutAuto
import Derived.Test.YtghcagibdcblnaaGreatDoorNef
namespace Go.Proofs
open Go.Shelf
def Tryz.lays169_ren : Go.Shelf.Ren := ⟨fun | 169 => 33 | n => n, fun | 70 => 71 | 9 => 9 | 0 => 0 | 72 => 73 | 37 => 22 | 127 => 100 | 3 => 3 | 5 => 5 | n => n, fun | n => n⟩
theorem Tryz.lays169 : Go.Proofs.Lays.n169 Tryz.prog Tryz.lays169_ren := {
  mixed := by kernel_rfl
  f169 := Tryz.func33.trans (congrArg some (by kernel_rfl))
  t0 := Tryz.underlying0
  a0 := Tryz.isAgg0
  z0 := Tryz.sizeOf0
  v0 := Tryz.zeroValue0
  t3 := Tryz.underlying3
  a3 := Tryz.isAgg3
  z3 := Tryz.sizeOf3
  v3 := Tryz.zeroValue3
  t9 := Tryz.underlying9
  a9 := Tryz.isAgg9
  z9 := Tryz.sizeOf9
  v9 := Tryz.zeroValue9
  t37 := Tryz.underlying22
  a37 := Tryz.isAgg22
  z37 := Tryz.sizeOf22
  v37 := Tryz.zeroValue22
  t70 := Tryz.underlying71
  a70 := Tryz.isAgg71
  z70 := Tryz.sizeOf71
  v70 := Tryz.zeroValue71
  t72 := Tryz.underlying73
  a72 := Tryz.isAgg73
  z72 := Tryz.sizeOf73
  v72 := Tryz.zeroValue73
  t127 := Tryz.underlying100
  a127 := Tryz.isAgg100
  z127 := Tryz.sizeOf100
  v127 := Tryz.zeroValue100 }
theorem Tryz.Builder_Extra_169 : Builder.Extra Tryz.prog Tryz.lays169_ren := {
  sizeBuilder := by kernel_rfl
  liesBuilder := by kernel_rfl
  t5 := Tryz.underlying5
  a5 := Tryz.isAgg5
  z5 := Tryz.sizeOf5
  v5 := Tryz.zeroValue5
  infoByte := by kernel_rfl
  cellsByte := by kernel_rfl
  sizeByte := by kernel_rfl
  neB5 := by decide }
open Go.RowKit in
/-- (*strings.Builder).String: "String returns the accumulated string.": WHATEVER THE BUILDER HOLDS. (LAID: no walk: one application.) -/
theorem Tryz.Builder_String_any (B b : Nat) (l : List UInt8) (w : World) (h : Lib.IsBuilder 73 5 B b (Lib.byteCells l) w) (hBw : B ≤ w.heap.size) :
    Calls Tryz.prog 33 #[.pointer (some ⟨b, 0, none⟩)] w fun e w' => e = .returned (.string ⟨l.toArray⟩) ∧ Below B w w' := Any.Builder_String_any Tryz.lays169 Tryz.Builder_Extra_169 B b l w h hBw
end Go.Proofs

/- A text is written to a strings.Builder that the call itself has made: the bytes behind those that it holds. -/
namespace Go.Proofs.YtghcagibdcblnaaGreatDoor
open Go.ChangeShapes Go.WideShapes Go.ChangeAt Go.RowKit
set_option linter.unusedVariables false
set_option linter.unusedSimpArgs false

theorem wr_size : (Tryz.prog.info? 73).map (·.size) = some 2 := by kernel_rfl
theorem wr_lies : liesAt Tryz.prog Tryz.prog.depth 73 (2 / Tryz.prog.cellsOf 73) 0 73 1 = true := by kernel_rfl
set_option maxHeartbeats 1000000 in
set_option maxRecDepth 100000 in
theorem wr_used (b : Nat) (w : World) (h0 : w.cell? ⟨b, 0, none⟩ = some (.pointer (some ⟨b, 0, none⟩))) :
    Calls Tryz.prog 58 #[.pointer (some ⟨b, 0, none⟩)] w fun e w' => e = .returned (.tuple #[]) ∧ w' = w := by
  obtain ⟨j, hj, _⟩ := Option.map_eq_some_iff.1 wr_size
  have hne := Lib.run_neq_ptr_same (P := Tryz.prog) w ⟨b, 0, none⟩ Tryz.underlying71 hj
  go_enter Tryz.func58, Tryz.ntmps58
  go_wp2
  exact bodyPost_end (v := .tuple #[]) (by simp [results, Tryz.results58]) rfl ⟨rfl, rfl⟩
set_option maxHeartbeats 1000000 in
set_option maxRecDepth 100000 in
theorem wr_fresh (b : Nat) (w : World) (h0 : w.cell? ⟨b, 0, none⟩ = some (.pointer none)) (hsh : w.shape? b = some (73, 2)) (hfz : w.frozen? ⟨b, 0, none⟩ = false) :
    Calls Tryz.prog 58 #[.pointer (some ⟨b, 0, none⟩)] w fun e w' => e = .returned (.tuple #[]) ∧ w' = w.setCell ⟨b, 0, none⟩ (.pointer (some ⟨b, 0, none⟩)) := by
  obtain ⟨j, hj, hjs⟩ := Option.map_eq_some_iff.1 wr_size
  have hto := Lib.run_to_unsafe (P := Tryz.prog) w ⟨b, 0, none⟩ Tryz.underlying71 Tryz.underlying120 hj (by rw [hjs]; decide) hsh (Nat.zero_lt_succ 1)
  have hfr := Lib.run_from_unsafe (P := Tryz.prog) w ⟨b, 0, none⟩ Tryz.underlying120 Tryz.underlying71 hj hsh wr_lies
  have hne := @run_callFunc_extern Tryz.prog 82 _ Extern.AbiNoEscape.same Tryz.func82 (by kernel_rfl) (by kernel_rfl) (by kernel_rfl) (by kernel_rfl)
  have hes : ∀ x, (Extern.AbiNoEscape.same #[x]).run Tryz.prog w = .ok x w := fun x => Lib.run_noEscape w x
  go_enter Tryz.func58, Tryz.ntmps58
  go_wp2
  exact bodyPost_end (v := .tuple #[]) (by simp [results, Tryz.results58]) rfl ⟨rfl, rfl⟩
theorem bu_below {W W' : World} {T e : TypeId} {B b : Nat} {p : Value} {bs : List Value} (h : Lib.BuilderAt T e B b p bs W) (hb : Below W.heap.size W W') : Lib.BuilderAt T e B b p bs W' := by
  have hl := h.lt
  obtain ⟨hB, v, hbk, hown, hne⟩ := h
  exact ⟨hB, v, (hb.block b hl).trans hbk, hown.kept (row := none) ⟨hb.os, hb.tape, hb.output, hb.size, fun k hk _ => hb.block k hk⟩ (by cases h1 : v.ownBlock; exact .inl rfl; exact .inr (by simp)), hne⟩
theorem isb_below {W W' : World} {T e : TypeId} {B b : Nat} {bs : List Value} (h : Lib.IsBuilder T e B b bs W) (hb : Below W.heap.size W W') : Lib.IsBuilder T e B b bs W' := by
  rcases h with h | h
  · exact .inl (bu_below h hb)
  · exact .inr (bu_below h hb)
theorem isb_new (W : World) (B : Nat) (hB : B ≤ W.heap.size) : Lib.IsBuilder 73 5 B W.heap.size [] (W.alloc (.cells #[.pointer none, .slice none 0 0] 73)) :=
  .inl ⟨hB, .slice none 0 0, heap_alloc_new W _, World.ownsRow_nil _ _ _ _, by simp [Value.ownBlock]⟩
/-- behind it the builder has been used; its bytes are as they were -/
theorem wr_check (B b : Nat) (bs : List Value) (w : World) (h : Lib.IsBuilder 73 5 B b bs w) :
    Calls Tryz.prog 58 #[.pointer (some ⟨b, 0, none⟩)] w fun e w' => e = .returned (.tuple #[]) ∧ Lib.BuilderAt 73 5 B b (.pointer (some ⟨b, 0, none⟩)) bs w' ∧ Below B w w' ∧ w.heap.size ≤ w'.heap.size := by
  rcases h with h | h
  · refine (wr_fresh b w h.cell0 h.shape h.frozen0).mono ?_
    rintro e w' ⟨rfl, rfl⟩
    exact ⟨rfl, h.used _, (Below.refl _ _).setCell (p := ⟨b, 0, none⟩) h.1 _, by simp [World.setCell]⟩
  · refine (wr_used b w h.cell0).mono ?_
    rintro e w' ⟨rfl, rfl⟩
    exact ⟨rfl, h, Below.refl _ _, Nat.le_refl _⟩
theorem wr_info : (Tryz.prog.info? 5).map (fun i => (i.zero, i.size, i.bytes)) = some (some (.int .u8 0), 1, 1) := by kernel_rfl
set_option maxHeartbeats 1000000 in
set_option maxRecDepth 100000 in
theorem wr_text (B b : Nat) (bs : List Value) (s : ByteArray) (w : World) (h : Lib.IsBuilder 73 5 B b bs w) (hlen : bs.length + s.size ≤ 1000000) (hBw : B ≤ w.heap.size) :
    Calls Tryz.prog 30 #[.pointer (some ⟨b, 0, none⟩), .string s] w fun e w' => e = .returned (.tuple #[.int .i64 s.size, .nilIface]) ∧ Lib.IsBuilder 73 5 B b (bs ++ Lib.strCells s) w' ∧ Below B w w' := by
  obtain ⟨i0, hi0, hz0, hz1, hz2⟩ := info_parts wr_info
  have hC := hid (fun W (h : Lib.IsBuilder 73 5 B b bs W) => wr_check B b bs W h)
  replace h := hid h
  go_enter Tryz.func30, Tryz.ntmps30
  go_wp2_with fail
  refine (hC.out _ h.out).mono ?_
  rintro e w1 ⟨rfl, h1, hb1, hs1⟩
  obtain ⟨hB, v, hbk, hown, hne⟩ := h1
  have hlt : b < w1.heap.size := Lib.BuilderAt.lt ⟨hB, v, hbk, hown, hne⟩
  have q1 : Blk w1 b #[.pointer (some ⟨b, 0, none⟩), v] := ⟨_, hbk⟩
  have x1 := q1.cell
  have hBw1 : B ≤ w1.heap.size := by omega
  replace hown := hid hown
  replace hb1 := hid hb1
  replace hbk := hid hbk
  replace hne := hid hne
  clear h hC q1
  go_upto_region 3 with (at_builtin; refine Lib.wpList_append_own_string _ rfl _ _ 22 9 rfl B 5 i0 Tryz.underlying22 Tryz.underlying9 hi0 hz0 hz1 hz2 _ bs.length bs rfl hown.out s rfl (by unfold maxLen; omega) (by omega) hBw1 ?_; intro v' w2 hown' hgrow hnil; have hb2 : w2.heap[b]? = some (.cells #[.pointer (some ⟨b, 0, none⟩), v] 73 (0, 0)) := (by rw [hgrow.block b hlt (fun e => hne.out e.symm)]; exact hbk.out); obtain ⟨ao, n', cap, rfl⟩ : ∃ ao n' cap, v' = .slice ao n' cap := (by rcases hown'.2 with ⟨hv, _⟩ | ⟨g, cap, cur, hv, _⟩ <;> exact ⟨_, _, _, hv⟩); have hF := hid (Lib.BuilderAt.put hB hb2 (bs' := bs ++ Lib.strCells s) (by simpa [Lib.strCells_length] using hown') (by decide)); have hBe := hid ((hb1.out.grown hgrow hBw1 (fun k hk => (hown.out.lt k hk).1)).setCell (p := ⟨b, 1, none⟩) hB (.slice ao n' cap)); have q2 : Blk w2 b #[.pointer (some ⟨b, 0, none⟩), v] := ⟨_, hb2⟩; have x2 := q2.cell; have f2 := q2.frozen; have l2 := q2.lt; clear hown' hgrow hnil hb2 q2 x1)
  go_wp2
  go_ret2
  exact ⟨rfl, .inr hF.out, hBe.out⟩
end Go.Proofs.YtghcagibdcblnaaGreatDoor

/- The text of a snapshot: the program. -/
namespace Go.Proofs.YtghcagibdcblnaaGreatDoor
open Go.ChangeShapes Go.WideShapes Go.ChangeAt Go.RowKit
set_option linter.unusedVariables false
set_option linter.unusedSimpArgs false

theorem news_of_range {W : World} {b : Nat} {cs : List Value} (h : W.rangeAt b 0 cs) : ∀ j u, cs[j]? = some u → W.cell? ((⟨b, 0, none⟩ : Addr).add j) = some u := fun j u hu => by
  have hadd : (⟨b, 0, none⟩ : Addr).add j = ⟨b, j, none⟩ := by unfold Addr.add; split <;> simp_all
  rw [hadd]
  have := h j u hu
  rw [Nat.zero_add] at this
  exact this
theorem sn_regs {W : World} {b : Nat} {s : Sn} {vr vm : Value} (h : Blk W b (snA s vr vm)) : W.rangeAt b 0 [.int .i64 s.c.r0, .int .i64 s.c.r1, .int .i64 s.c.r2, .int .i64 s.c.r3, .int .i64 s.c.r4, .int .i64 s.c.r5, .int .i64 s.c.r6, .int .i64 s.c.r7] := blk_range h [] _ ((snA s vr vm).toList.drop 8) rfl
/-- a row of numbers of its own can be read -/
theorem rowR_of_own {W : World} {base : Nat} {v : Value} {n : Nat} {L : List Int} (h : W.ownsRow base 3 1 v n (L.map (Value.int .i64))) (hn : L.length = n) : ∃ a cap, v = .slice a L.length cap ∧ RowR W (.slice a L.length cap) L := by
  have h' := h
  obtain ⟨hl, ⟨rfl, rfl⟩ | ⟨g, cap, cur, rfl, hb, hh, hc, hm, hs, ht⟩⟩ := h
  · have : L = [] := by simpa using hl
    subst this
    exact ⟨none, 0, rfl, none, 0, rfl, .inl rfl⟩
  · refine ⟨some ⟨g, 0, none⟩, cap, by rw [hn], some ⟨g, 0, none⟩, cap, rfl, .inr ⟨g, 0, rfl, fun i hi => ?_⟩⟩
    rw [Nat.zero_add, h'.cellAt i (by omega)]
    simp [List.getD_eq_getElem?_getD, List.getElem?_eq_getElem hi]
set_option maxRecDepth 100000 in
set_option maxHeartbeats 2000000 in
theorem head_impl (s : Sn) (vr vm : Value) (w : World) (hk : okSn s = true) :
    Calls Tryz.prog 31 #[.agg (snA s vr vm)] w fun e w' => e = .returned (.string (strOfNums (headS s.c s.m s.p))) ∧ Below w.heap.size w w' := by
  obtain ⟨i0, hi0, hz0, hz1, hz2⟩ := info_parts infoIN
  have hbo := po_border (sn_parts hk).2.2
  have hB := hid ((Below.refl w.heap.size w).alloc (Nat.le_refl _) (.cells (snA s vr vm) 33))
  have q := hid (Blk.new w (snA s vr vm) 33)
  have hS := hid (fun W => switches_impl s vr vm W)
  have hU := hid (fun W => border_impl s vr vm W hbo.1 hbo.2)
  have hby : Hid (∀ x ∈ headS s.c s.m s.p, 0 ≤ x ∧ x ≤ 255) := fun x hx => snapL_bytes hk x (List.mem_append_left _ hx)
  have hT := hid (fun a cap W (hW : RowR W (.slice a (headS s.c s.m s.p).length cap) (headS s.c s.m s.p)) => textof_impl a cap (headS s.c s.m s.p) W hW hby.out (by show 15 ≤ _; omega))
  have hE : Hid (([Value.int .i64 3] ++ [.int .i64 s.c.r0, .int .i64 s.c.r1, .int .i64 s.c.r2, .int .i64 s.c.r3, .int .i64 s.c.r4, .int .i64 s.c.r5, .int .i64 s.c.r6, .int .i64 s.c.r7]) ++ [.int .i64 s.c.f, .int .i64 s.c.sp, .int .i64 s.c.pc, .int .i64 (bitsS s.c s.m), .int .i64 s.m.page, .int .i64 (ulaS s.p)] = (headS s.c s.m s.p).map (Value.int .i64)) := rfl
  generalize hHL : headS s.c s.m s.p = HL at *
  have hlen : HL.length = 15 := by rw [← hHL]; rfl
  generalize bitsS s.c s.m = m1 at *
  generalize ulaS s.p = u at *
  clear hHL hby hbo hk
  replace hlen := hid hlen
  go_enter Tryz.func31, Tryz.ntmps31
  go_upto_region 1 with fail
  obtain ⟨V, hV⟩ : ∃ V, w.alloc (Obj.cells (snA s vr vm) 33) = V := ⟨_, rfl⟩
  rw [hV] at hB q ⊢
  clear hV
  have hB1 := hid (hB.out.alloc hB.out.size (.cells #[.int .i64 3] 3))
  have q1 := hid (q.out.alloc (.cells #[.int .i64 3] 3))
  have own1 : Hid ((V.alloc (.cells #[.int .i64 3] 3)).ownsRow V.heap.size 3 1 (.slice (some ⟨V.heap.size, 0, none⟩) 1 1) 1 [.int .i64 3]) := World.ownsRow_lit V #[.int .i64 3] 1 (Nat.le_refl _) (by decide) rfl
  have hbl : w.heap.size < V.heap.size := q.out.lt
  go_upto_region 2 with fail
  obtain ⟨B, hBe⟩ : ∃ B, V.heap.size = B := ⟨_, rfl⟩
  have hsz1 : (V.alloc (.cells #[.int .i64 3] 3)).heap.size = B + 1 := by rw [World.size_alloc, hBe]
  rw [hBe] at own1 hbl ⊢
  obtain ⟨V1, hV1⟩ : ∃ V1, V.alloc (Obj.cells #[.int .i64 3] 3) = V1 := ⟨_, rfl⟩
  rw [hV1] at hB1 q1 own1 hsz1 ⊢
  clear hV1 hBe q hB
  go_wp2_with (at_builtin; refine wpList_append_lies _ rfl _ _ 26 rfl B 3 i0 _ 1 8 Tryz.underlying26 hi0 hz0 hz1 hz2 rfl (by omega) (.slice (some ⟨B, 0, none⟩) 1 1) 1 [.int .i64 3] rfl own1.out ⟨w.heap.size, 0, none⟩ 8 8 [.int .i64 s.c.r0, .int .i64 s.c.r1, .int .i64 s.c.r2, .int .i64 s.c.r3, .int .i64 s.c.r4, .int .i64 s.c.r5, .int .i64 s.c.r6, .int .i64 s.c.r7] rfl rfl (news_of_range (sn_regs q1.out)) (by simp [Value.oneCell']) (by omega) (by unfold maxLen; omega) (by omega) (by omega) _ rfl ?_; intro gg cap2 V2 ho hg hat hlt3)
  have hb1 : w.heap.size ≠ B := by omega
  have hB2 := hid (hB1.out.grown hg (by have := hB1.out.size; omega) (fun g e => by
    have := (own1.out.lt g e).1
    omega))
  have q2 := hid (q1.out.grown hg (by simp [Value.ownBlock]; omega))
  have own2 := hid ho
  have hsz2 : Hid (B ≤ V2.heap.size) := by have := hg.size; unfold Hid; omega
  have nb2 : Hid (some w.heap.size ≠ (Value.slice (some ⟨gg, 0, none⟩) 9 cap2).ownBlock) := fun e => by
    have := (own2.out.lt _ e.symm).1
    omega
  clear ho hg hat hlt3 own1 q1 hB1 hsz1
  refine nh_reg _ V2 _ w.heap.size 9 cap2 B (some ⟨gg, 0, none⟩) _ s vr vm m1 u rfl rfl q2.out nb2.out own2.out hsz2.out (by omega) hS.out hU.out (by simp) ?_
  rintro W3 e ⟨hgr, hown⟩
  rw [hE.out] at hown
  have hB3 := hid (hB2.out.grown hgr (by have := hB2.out.size; omega) (fun g hg => by have := (own2.out.lt g hg).1; omega))
  obtain ⟨ra, rc, hre, hrr⟩ := rowR_of_own hown hlen.out
  replace hrr := hid hrr
  simp only [putsA, Act.put, List.setIfInBounds_toArray, List.set_cons_zero, List.set_cons_succ]
  rw [hre]
  clear hre hown hgr own2 q2 nb2 hB2 hS hU hE hsz2 hb1 hbl
  go_wp2_with fail
  refine (hT.out _ _ _ hrr.out).mono ?_
  rintro r w4 ⟨rfl, hb4⟩
  have hB4 := hid (new_trans hB3.out hb4)
  clear hb4 hB3 hrr hT
  go_wp2_with fail
  go_ret
  exact ⟨rfl, hB4.out⟩
/-- the text of the first k banks behind the head -/
def txS (s : Sn) (k : Nat) : ByteArray := strOfNums (headS s.c s.m s.p ++ bnksL (s.m.ram.take k))
theorem bnks_snoc : ∀ (R : List (List Int)) (k : Nat), k < R.length → bnksL (R.take (k + 1)) = bnksL (R.take k) ++ bnkL (R.getD k [])
  | [], k, h => by cases h
  | b :: R, 0, _ => by show bnkL b ++ [] = [] ++ bnkL b; simp
  | b :: R, k + 1, h => by
    have := bnks_snoc R k (by simpa using h)
    show bnkL b ++ bnksL (R.take (k + 1)) = (bnkL b ++ bnksL (R.take k)) ++ bnkL (R.getD k [])
    rw [this, List.append_assoc]
theorem txS_snoc (s : Sn) (k : Nat) (h : k < s.m.ram.length) : txS s (k + 1) = txS s k ++ strOfNums (bnkL (s.m.ram.getD k [])) := by
  unfold txS
  rw [bnks_snoc _ _ h, ← List.append_assoc, sN_app]
theorem bnks_le : ∀ (R : List (List Int)), (∀ b ∈ R, b.length = 64) → (bnksL R).length ≤ 130 * R.length := fun R h => bnks_len h
theorem txS_size (s : Sn) (h : ∀ b ∈ s.m.ram, b.length = 64) (k : Nat) : (txS s k).size ≤ 15 + 130 * k := by
  unfold txS
  rw [strOfNums_size, List.length_append, headS_len]
  have := bnks_len (R := s.m.ram.take k) (fun b hb => h b (List.mem_of_mem_take hb))
  have := List.length_take_le k s.m.ram
  omega
theorem bcat (a b : ByteArray) : Lib.byteCells (a ++ b).data.toList = Lib.byteCells a.data.toList ++ Lib.strCells b := by
  unfold Lib.byteCells Lib.strCells
  rw [ByteArray.data_append, Array.toList_append, List.map_append]
set_option maxRecDepth 100000 in
set_option maxHeartbeats 2000000 in
theorem text_impl (v : Value) (s : Sn) (w : World) (h : SnR w v s) (hk : okSn s = true) :
    Calls Tryz.prog 16 #[v] w fun e w' => e = .returned (.string (strOfNums (snapL s.c s.m s.p))) ∧ Below w.heap.size w w' := by
  obtain ⟨vr, vm, rfl, hv⟩ := h
  obtain ⟨hm1, hm2, hm3, -, hm5⟩ := ok_parts (sn_parts hk).2.1
  have hB := hid ((Below.refl w.heap.size w).alloc (Nat.le_refl _) (.cells (snA s vr vm) 33))
  have q := hid (Blk.new w (snA s vr vm) 33)
  have hH := hid (fun W => head_impl s vr vm W hk)
  have hbk : ∀ i, i < 4 → (s.m.ram.getD i []).length = 64 ∧ ∀ z ∈ s.m.ram.getD i [], 0 ≤ z ∧ z ≤ 255 := fun i hi => by
    obtain ⟨e1, e2⟩ := bytes13 (hm5 i (by omega))
    refine ⟨e1, fun z hz => ?_⟩
    obtain ⟨k, hk, rfl⟩ := List.mem_iff_getElem.1 hz
    have := e2 k (by omega)
    rw [List.getD_eq_getElem?_getD, List.getElem?_eq_getElem hk] at this
    exact this
  have hr6 := (right_of hk).bank
  obtain ⟨a1, p1, a2, p2, hvf, _, r2⟩ := hv.form
  simp only [memV, Value.agg.injEq, Array.mk.injEq, List.cons.injEq, and_true, true_and] at hvf
  obtain ⟨rfl, rfl⟩ := hvf
  rw [hm2] at r2
  have k2 : Hid (∀ W', Below w.heap.size w W' → RowsR W' (.slice a2 4 p2) s.m.ram) := fun W' hb => r2.below hb
  have hP : Hid (∀ k, k < 4 → ∀ a cap W, RowR W (.slice a (s.m.ram.getD k []).length cap) (s.m.ram.getD k []) → Calls Tryz.prog 32 #[.slice a (s.m.ram.getD k []).length cap] W fun e w' => e = .returned (.string (strOfNums (bnkL (s.m.ram.getD k [])))) ∧ Below W.heap.size W w') := fun k hk a cap W hW => bpacked_impl a cap _ W hW (hbk k hk).2 (hbk k hk).1
  have hZ : Hid (∀ k, k < 4 → (txS s k).size ≤ 600 ∧ (strOfNums (bnkL (s.m.ram.getD k []))).size ≤ 130) := fun k hk4 => by
    have h1 := txS_size s hr6 k
    refine ⟨by omega, ?_⟩
    rw [strOfNums_size]
    have h2 := cmpE_len (s.m.ram.getD k [])
    rw [(hbk k hk4).1] at h2
    show ([_, _] ++ cmpE (s.m.ram.getD k [])).length ≤ 130
    rw [List.length_append]
    show 2 + _ ≤ 130
    omega
  have hN : Hid (∀ k, k < 4 → txS s (k + 1) = txS s k ++ strOfNums (bnkL (s.m.ram.getD k []))) := fun k hk4 => txS_snoc s k (by omega)
  have h0 : Hid (txS s 0 = strOfNums (headS s.c s.m s.p)) := by
    unfold txS
    show strOfNums (headS s.c s.m s.p ++ []) = _
    rw [List.append_nil]
  have h4 : Hid (txS s 4 = strOfNums (snapL s.c s.m s.p)) := by
    unfold txS snapL
    rw [List.take_of_length_le (by omega)]
    exact rfl
  have h4n : Hid (s.m.ram.length = 4) := hm2
  have h0s : Hid ((strOfNums (headS s.c s.m s.p)).size = 15) := by
    unfold Hid
    rw [strOfNums_size]
    rfl
  rw [hm2]
  rw [hm2] at hB q hH
  generalize strOfNums (snapL s.c s.m s.p) = TX at *
  generalize strOfNums (headS s.c s.m s.p) = HX at *
  clear hm1 hm2 hm3 hm5 hbk hr6 r2 hv hk
  go_enter Tryz.func16, Tryz.ntmps16
  go_upto_region 1 with fail
  obtain ⟨V, hV⟩ : ∃ V, w.alloc (Obj.cells (snA s (.slice a1 s.m.rom.length p1) (.slice a2 4 p2)) 33) = V := ⟨_, rfl⟩
  rw [hV] at hB q ⊢
  clear hV
  have hb1 := hid (hB.out.alloc hB.out.size (.cells #[.pointer none, .slice none 0 0] 73))
  have hI1 := hid (isb_new V V.heap.size (Nat.le_refl _))
  have q1 := hid (q.out.alloc (.cells #[.pointer none, .slice none 0 0] 73))
  have hl1 : w.heap.size < V.heap.size := q.out.lt
  go_upto_region 2 with fail
  obtain ⟨B, hBe⟩ : ∃ B, V.heap.size = B := ⟨_, rfl⟩
  obtain ⟨W1, hW1⟩ : ∃ W1, V.alloc (.cells #[.pointer none, .slice none 0 0] 73) = W1 := ⟨_, rfl⟩
  rw [hW1, hBe] at hI1
  rw [hW1] at hb1 q1 ⊢
  rw [hBe] at hl1 ⊢
  clear hBe hW1 hB q
  have x1 := hid (sn_all q1.out)
  go_wp2_with (refine wpList_load_mid rfl 33 _ rfl w.heap.size 0 rfl (snA s (.slice a1 s.m.rom.length p1) (.slice a2 4 p2)).toList _ x1.out Tryz.underlying33 rfl (szS s _ _) ?_)
  refine (hH.out _).mono ?_
  rintro e w2 ⟨rfl, hb2⟩
  have hW2 := hid (new_trans hb1.out hb2)
  have hI2 := hid (isb_below hI1.out hb2)
  have q2 := hid (q1.out.below hb2 q1.out.lt)
  have hs2 : Hid (B ≤ w2.heap.size) := by
    have := hI2.out
    rcases this with h | h
    · exact Nat.le_of_lt h.lt
    · exact Nat.le_of_lt h.lt
  clear hb2 hI1 hb1 q1 x1 hH
  go_wp2_with fail
  have hsz15 := h0s.out
  refine (wr_text B B [] HX _ hI2.out (by rw [hsz15]; decide) hs2.out).mono ?_
  rintro e w3 ⟨rfl, hI3, hb3⟩
  have hW3 := hid (hW2.out.trans (hb3.mono (Nat.le_of_lt hl1)))
  have hI4 : Hid (Lib.IsBuilder 73 5 B B (Lib.byteCells (txS s 0).data.toList) w3) := by
    rw [h0.out]
    exact hI3
  have q3 := (q2.out.below hb3 hl1)
  have c16 : w3.cell? ⟨w.heap.size, 15, none⟩ = some (.slice a2 4 p2) := q3.cell 15
  clear hb3 hI3 hW2 hI2 q2 q3 hs2 hsz15 h0 h0s
  go_wp2_with fail
  go_loopw [13] (fun i wr => ∃ k : Nat, k ≤ 4 ∧ i = .int .i64 k ∧ Lib.IsBuilder 73 5 B B (Lib.byteCells (txS s k).data.toList) wr ∧ Below w.heap.size w wr ∧ B ≤ wr.heap.size) (fun i _ => 4 - (intOf i).toNat)
  case atStart => exact ⟨0, by omega, rfl, hI4.out, hW3.out, by rcases hI4.out with h | h <;> exact Nat.le_of_lt h.lt⟩
  case round =>
    obtain ⟨k, hk, rfl, hI, hW, hBs⟩ := hrel
    clear hI4 hW3 c16
    by_cases hlt : k < 4
    · obtain ⟨b, off, a3, p3, rfl, c1, hbl, r3⟩ := rows_at (k2.out _ hW) (k := k) (by rw [h4n.out]; exact hlt)
      obtain ⟨z1, z2⟩ := hZ.out k hlt
      have hT2 := hid (hP.out k hlt a3 p3 wr r3)
      have hE : Hid (Lib.byteCells (txS s (k + 1)).data.toList = Lib.byteCells (txS s k).data.toList ++ Lib.strCells (strOfNums (bnkL (s.m.ram.getD k [])))) := by
        rw [hN.out k hlt]
        exact bcat _ _
      have zz : (Lib.byteCells (txS s k).data.toList).length ≤ 600 := by rw [Lib.byteCells_length, Array.length_toList]; exact z1
      generalize strOfNums (bnkL (s.m.ram.getD k [])) = X at *
      generalize Lib.byteCells (txS s k).data.toList = Y at *
      generalize s.m.ram.getD k [] = Z at *
      replace hW := hid hW
      replace hI := hid hI
      clear r3
      go_wp2_with fail
      refine hT2.out.mono ?_
      rintro e w5 ⟨rfl, hb5⟩
      have hW5 := hid (new_trans hW.out hb5)
      have hI5 := hid (isb_below hI.out hb5)
      have hs5 : Hid (B ≤ w5.heap.size) := by have := hb5.size; unfold Hid; omega
      clear hb5 hW hI hT2 c1
      go_wp2_with fail
      refine (wr_text B B Y X _ hI5.out (by omega) hs5.out).mono ?_
      rintro e w6 ⟨rfl, hI6, hb6⟩
      have hW6 := hid (hW5.out.trans (hb6.mono (Nat.le_of_lt hl1)))
      have hs6 : Hid (B ≤ w6.heap.size) := by have := hb6.size; have := hs5.out; unfold Hid; omega
      replace hI6 := hid hI6
      clear hb6 hW5 hI5 hs5
      go_wp2_with fail
      go_roundw
      case rel => exact ⟨k + 1, by omega, by go_num, by rw [hE.out]; exact hI6.out, hW6.out, hs6.out⟩
      case measure => simp [intOf]; omega
    · obtain rfl : k = 4 := by omega
      replace hW := hid hW
      have hF := hid (Tryz.Builder_String_any B B (txS s 4).data.toList wr hI hBs)
      have hX : Hid ((⟨(txS s 4).data.toList.toArray⟩ : ByteArray) = TX) := by
        rw [← h4.out]
        exact ByteArray.ext (by simp)
      clear hI
      go_wp2_with fail
      refine hF.out.mono ?_
      rintro e w7 ⟨rfl, hb7⟩
      have hW7 := hid (hW.out.trans (hb7.mono (Nat.le_of_lt hl1)))
      clear hb7 hW hF
      go_wp2_with fail
      go_ret
      exact ⟨by rw [← h4.out]; rfl, hW7.out⟩
set_option maxRecDepth 100000 in
set_option maxHeartbeats 1000000 in
theorem sntext_impl (v : Value) (s : Sn) (w : World) (h : SnR w v s) (hs : SmallS s) :
    Calls Tryz.prog 6 #[v] w fun e w' => e = .returned (.tuple #[.string (sntext2 s).1, .int .i64 (sntext2 s).2]) ∧ Below w.heap.size w w' := by
  have hS := h
  obtain ⟨vr, vm, rfl, hv⟩ := h
  have hB := hid ((Below.refl w.heap.size w).alloc (Nat.le_refl _) (.cells (snA s vr vm) 33))
  have q := hid (Blk.new w (snA s vr vm) 33)
  have hO := hid (fun w1 (hb : Below w.heap.size w w1) => isright_impl (.agg (snA s vr vm)) s w1 (hS.below hb) hs.1 hs.2.1 hs.2.2)
  have hT := hid (fun w1 (hb : Below w.heap.size w w1) (hk : okSn s = true) => text_impl (.agg (snA s vr vm)) s w1 (hS.below hb) hk)
  clear hS hv
  cases hc : okSn s
  · have e : sntext2 s = (⟨#[]⟩, 1) := by unfold sntext2; rw [hc]; rfl
    rw [e]
    rw [hc] at hO
    clear e hT
    go_enter Tryz.func6, Tryz.ntmps6
    go_upto_region 1 with fail
    obtain ⟨V, hV⟩ : ∃ V, w.alloc (Obj.cells (snA s vr vm) 33) = V := ⟨_, rfl⟩
    rw [hV] at hB q ⊢
    clear hV
    have x1 := hid (sn_all q.out)
    go_wp2_with (refine wpList_load_mid rfl 33 _ rfl w.heap.size 0 rfl (snA s vr vm).toList _ x1.out Tryz.underlying33 rfl (szS s vr vm) ?_)
    refine (hO.out _ hB.out).mono ?_
    rintro e w1 ⟨rfl, hb⟩
    have hB1 := hid (new_trans hB.out hb)
    clear hb hB q x1
    go_wp2_with fail
    go_ret2
    exact ⟨rfl, hB1.out⟩
  · have e : sntext2 s = (strOfNums (snapL s.c s.m s.p), 0) := by unfold sntext2; rw [hc]; rfl
    rw [e]
    rw [hc] at hO
    clear e
    generalize strOfNums (snapL s.c s.m s.p) = X at *
    go_enter Tryz.func6, Tryz.ntmps6
    go_upto_region 1 with fail
    obtain ⟨V, hV⟩ : ∃ V, w.alloc (Obj.cells (snA s vr vm) 33) = V := ⟨_, rfl⟩
    rw [hV] at hB q ⊢
    clear hV
    have x1 := hid (sn_all q.out)
    go_wp2_with (refine wpList_load_mid rfl 33 _ rfl w.heap.size 0 rfl (snA s vr vm).toList _ x1.out Tryz.underlying33 rfl (szS s vr vm) ?_)
    refine (hO.out _ hB.out).mono ?_
    rintro e w1 ⟨rfl, hb⟩
    have hB1 := hid (new_trans hB.out hb)
    have q1 := hid (q.out.below hb q.out.lt)
    clear hb hB q x1
    have x2 := hid (sn_all q1.out)
    go_wp2_with (refine wpList_load_mid rfl 33 _ rfl w.heap.size 0 rfl (snA s vr vm).toList _ x2.out Tryz.underlying33 rfl (szS s vr vm) ?_)
    refine (hT.out _ hB1.out hc).mono ?_
    rintro e w2 ⟨rfl, hb⟩
    have hB2 := hid (new_trans hB1.out hb)
    clear hb hB1 q1 x2
    go_wp2_with fail
    go_ret2
    exact ⟨rfl, hB2.out⟩
end Go.Proofs.YtghcagibdcblnaaGreatDoor
