/- What the specification's frame answers: its lines, its screen, its waits, its fetches, as plain functions of numbers. -/
import Derived.Test.YtneagomkohoceaaDoorC02
import Derived.Test.YtneagomkohoceaaDoorTxbc
import Derived.Test.YtneagomkohoceaaDoorTxdc
import Derived.LaidMore
import Derived.OpenShut
import Derived.Stop.Joined
import Derived.OpenVars
import Derived.MakeChecks
namespace Go.Proofs.YtneagomkohoceaaDoor
open Go.ChangeShapes Go.WideShapes Go.ChangeAt Go.RowKit
set_option linter.unusedVariables false

/-- the screen's T -/
def scrI (t : Int) : Bool := inB (t / 32) 4 11 && decide (t % 32 < 16)
/-- how long who wants what is shared waits -/
def waitI (t : Int) : Int := if scrI t = true then max 0 (6 - t % 8) else 0
/-- which byte is fetched -/
def fetI (t : Int) : Int := if scrI t = true ∧ t % 4 ≤ 1 then 4 * (t / 32 - 4) + t % 32 / 4 + 32 * (t % 4) else -1
def line3 (t : Int) : Value := if inB t 0 639 then .tuple #[.int .i64 (t / 32), .int .i64 (t % 32), .int .i64 0] else .tuple #[.int .i64 0, .int .i64 0, .int .i64 4]
def scr2 (t : Int) : Value := if inB t 0 639 then .tuple #[.bool (scrI t), .int .i64 0] else .tuple #[.bool false, .int .i64 4]
def wait2 (t : Int) : Value := if inB t 0 639 then .tuple #[.int .i64 (waitI t), .int .i64 0] else .tuple #[.int .i64 0, .int .i64 4]
def fet2 (t : Int) : Value := if inB t 0 639 then .tuple #[.int .i64 (fetI t), .int .i64 0] else .tuple #[.int .i64 0, .int .i64 4]
def cell2 (r c : Int) : Value := if inB r 0 7 && inB c 0 3 then .tuple #[.int .i64 (4 * r + c), .int .i64 0] else .tuple #[.int .i64 0, .int .i64 4]
def win2 (t : Int) : Value := if inB t 0 639 then .tuple #[.bool (decide (t < 8)), .int .i64 0] else .tuple #[.bool false, .int .i64 4]
theorem fr_yes {t : Int} (h : inB t 0 639 = true) : 0 ≤ t ∧ t ≤ 639 := by simpa [inB] using h

end Go.Proofs.YtneagomkohoceaaDoor

/- What the program's frame answers: where a T stands, its waits, its fetches; the two patterns being in their blocks. -/
namespace Go.Proofs.YtneagomkohoceaaDoor
open Go.ChangeShapes Go.WideShapes Go.ChangeAt Go.RowKit
set_option linter.unusedVariables false

theorem scr_row (t : Int) : inB (t / 32 - 4) 0 7 = inB (t / 32) 4 11 := by
  unfold inB
  rw [decide_eq_decide]
  omega
theorem wi_impl (n a b : Int) (w : World) : Calls Tryd.prog 30 #[.int .i64 n, .int .i64 a, .int .i64 b] w fun e w' => e = .returned (.bool (inB n a b)) ∧ w' = w := by
  go_enter Tryd.func30, Tryd.ntmps30
  go_wp2
  all_goals go_ret
  all_goals exact ⟨ret_bool (by rw [Bool.eq_iff_iff]; simp [inB]; try omega), rfl⟩
end Go.Proofs.YtneagomkohoceaaDoor

/- An event's text: the program. -/
namespace Go.Proofs.YtneagomkohoceaaDoor
open Go.ChangeShapes Go.WideShapes Go.ChangeAt Go.RowKit
set_option linter.unusedVariables false
set_option linter.unusedSimpArgs false

/-- a table of words, as the row lays it -/
theorem strs_reads {W : World} {nm : String} {g n : Nat} {ty : TypeId} {held : Bool} {cs : Array Value} {fuel : Nat} {p : List MemPlace} (zs : List (List UInt8)) (hz : zs.length = n) (hg : Tryd.prog.globalNamed nm = some g) (hu : Tryd.prog.underlying ty = some (.array n 9)) (c2 : Tryd.prog.cellsOf ty = n)
    (hv : World.var? Tryd.prog W nm = some cs) (h : DataW.trod (fun _ => ()) Tryd.prog W 0 (fun _ => true) held fuel ty cs.toList = some ((.agg (zs.map fun z => .lit (.string z)) : DataW Unit), p)) : ∀ i, i < n → W.cell? ⟨g, i, none⟩ = some (.string ⟨(zs.getD i []).toArray⟩) := by
  obtain ⟨xs, m1, rfl, hx1, hlen, hn, hel⟩ := DataW.trod_array hu h
  have c1 : Tryd.prog.cellsOf 9 = 1 := by kernel_rfl
  have hd : xs.map (·.1) = zs.map fun z => (DataW.lit (.string z) : DataW Unit) := by
    have := congrArg Prod.fst hx1
    simp only [DataW.agg.injEq] at this
    exact this.symm
  intro i hi
  have h0 := hel i hi
  rw [c1, Nat.mul_one] at h0
  have hxi : xs[i]? = some xs[i] := List.getElem?_eq_getElem (by omega)
  rw [hxi] at h0
  obtain ⟨s, e1, e2, _⟩ := DataW.trod_string Tryd.underlying9 h0
  have hcs : cs[i]? = some (.string s) := by
    have := congrArg (·[0]?) e1
    simpa [List.getElem?_take, List.getElem?_drop] using this
  rw [World.var?_cell hg hv i, hcs]
  have hz2 : (xs.map (·.1))[i]? = some (DataW.lit (.string s.data.toList) : DataW Unit) := by
    rw [List.getElem?_map, hxi, e2]; rfl
  rw [hd, List.getElem?_map] at hz2
  have hi' : i < zs.length := by omega
  rw [List.getElem?_eq_getElem hi'] at hz2
  simp only [Option.map_some, Option.some.injEq, DataW.lit.injEq, Lit.string.injEq] at hz2
  have : s = ⟨(zs.getD i []).toArray⟩ := by
    rw [List.getD_eq_getElem?_getD, List.getElem?_eq_getElem hi', Option.getD_some, hz2]
  rw [this]
def evwL : List (List UInt8) := [[], [98, 111, 114, 100, 101, 114], [98, 101, 101, 112], [112, 115, 103], [105, 110], [105, 110, 116]]
def evW (k : Nat) : ByteArray := ⟨(evwL.getD k []).toArray⟩
def spX : ByteArray := ⟨#[32]⟩
def evtB (t k v : Nat) : ByteArray := digB t ++ spX ++ evW k ++ spX ++ digB v
def okEv (t k v : Int) : Bool := inB t 0 739 && inB k 1 5 && inB v 0 255
abbrev evtA (t k v : Int) : Array Value := #[.int .i64 t, .int .i64 k, .int .i64 v]
abbrev evtV (t k v : Int) : Value := .agg #[.int .i64 t, .int .i64 k, .int .i64 v]
def evt2 (t k v : Int) : Value := if okEv t k v = true then .tuple #[.string (evtB t.toNat k.toNat v.toNat), .int .i64 0] else .tuple #[.string ⟨#[]⟩, .int .i64 1]
theorem evW_facts : ∀ k, k < 6 → 1 ≤ k → (evW k).size ≤ 6 ∧ evW k ≠ ⟨#[]⟩ := by decide +kernel
theorem digB_ne (n : Nat) : digB n ≠ ⟨#[]⟩ := by
  intro h
  have h1 : (digB n).data.toList = [] := by rw [h]
  have h2 : Go.Lib.decDigits n = [] := h1
  have := Go.Lib.decDigits_length n
  rw [h2] at this
  unfold Go.Lib.nDigits at this
  split at this <;> simp at this
theorem said_all : ∀ ws : List ByteArray, (∀ x ∈ ws, x ≠ ⟨#[]⟩) → saidL ws = ws := fun ws h => by
  unfold saidL
  rw [List.filter_eq_self]
  intro x hx
  simpa using h x hx
theorem evt_line (t k v : Nat) (h1 : 1 ≤ k) (h2 : k < 6) : lineB [digB t, evW k, digB v] = evtB t k v := by
  unfold lineB
  rw [said_all _ (by simp only [List.mem_cons, List.not_mem_nil, or_false]; rintro x (rfl | rfl | rfl); exact digB_ne _; exact (evW_facts k h2 h1).2; exact digB_ne _)]
  unfold joinB evtB spX
  apply ByteArray.ext
  simp [Lib.join_cons, Lib.joinTail, ByteArray.data_append]
theorem seq_one {P : Program} {ops : Array Oper} {Q : Exit → Act → World → Prop} {o : Oper} {R : List Oper} {a : Act} {w : World} (hw : Region.wanted o (yielded ops a.tmps) = true) (h : Oper.wp P o a w (wpSeq P ops Q R) Q) : wpSeq P ops Q (o :: R) a w := by
  show if _ then _ else _
  rw [if_pos hw]
  exact h
end Go.Proofs.YtneagomkohoceaaDoor
