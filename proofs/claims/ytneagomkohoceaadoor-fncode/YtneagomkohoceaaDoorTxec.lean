/- An event's text: the program. -/
import Derived.Test.YtneagomkohoceaaDoorTxbc
import Derived.Test.YtneagomkohoceaaDoorTxdc
import Derived.Test.YtneagomkohoceaaDoorInc
import Derived.Test.YtneagomkohoceaaDoorC38
import Derived.LaidMore
import Derived.OpenShut
import Derived.Stop.Joined
import Derived.OpenVars
import Derived.MakeChecks
namespace Go.Proofs.YtneagomkohoceaaDoor
open Go.ChangeShapes Go.WideShapes Go.ChangeAt Go.RowKit
set_option linter.unusedVariables false
set_option linter.unusedSimpArgs false

/-- a table of words, as the row lays it -/
theorem strs_reads {W : World} {nm : String} {g n : Nat} {ty : TypeId} {held : Bool} {cs : Array Value} {fuel : Nat} {p : List MemPlace} (zs : List (List UInt8)) (hz : zs.length = n) (hg : Tryd.prog.globalNamed nm = some g) (hu : Tryd.prog.underlying ty = some (.array n 9)) (c2 : Tryd.prog.cellsOf ty = n)
    (hv : World.var? Tryd.prog W nm = some cs) (h : DataW.trod (fun _ => ()) Tryd.prog W 0 (fun _ => true) held fuel ty cs.toList = some ((.agg (zs.map fun z => .lit (.string z)) : DataW Unit), p)) : ∀ i, i < n → W.cell? ⟨g, i, none⟩ = some (.string ⟨(zs.getD i []).toArray⟩) := by
  obtain ⟨xs, m1, rfl, hx1, hlen, hn, hel⟩ := DataW.trod_array hu h
  have c1 : Tryd.prog.cellsOf 9 = 1 := by kernel_rfl
  have hd : xs.map (·.1) = zs.map fun z => (DataW.lit (.string z) : DataW Unit) := by
    have := congrArg Prod.fst hx1
    simp only [DataW.agg.injEq] at this
    exact this.symm
  intro i hi
  have h0 := hel i hi
  rw [c1, Nat.mul_one] at h0
  have hxi : xs[i]? = some xs[i] := List.getElem?_eq_getElem (by omega)
  rw [hxi] at h0
  obtain ⟨s, e1, e2, _⟩ := DataW.trod_string Tryd.underlying9 h0
  have hcs : cs[i]? = some (.string s) := by
    have := congrArg (·[0]?) e1
    simpa [List.getElem?_take, List.getElem?_drop] using this
  rw [World.var?_cell hg hv i, hcs]
  have hz2 : (xs.map (·.1))[i]? = some (DataW.lit (.string s.data.toList) : DataW Unit) := by
    rw [List.getElem?_map, hxi, e2]; rfl
  rw [hd, List.getElem?_map] at hz2
  have hi' : i < zs.length := by omega
  rw [List.getElem?_eq_getElem hi'] at hz2
  simp only [Option.map_some, Option.some.injEq, DataW.lit.injEq, Lit.string.injEq] at hz2
  have : s = ⟨(zs.getD i []).toArray⟩ := by
    rw [List.getD_eq_getElem?_getD, List.getElem?_eq_getElem hi', Option.getD_some, hz2]
  rw [this]
def evwL : List (List UInt8) := [[], [98, 111, 114, 100, 101, 114], [98, 101, 101, 112], [112, 115, 103], [105, 110], [105, 110, 116]]
def evW (k : Nat) : ByteArray := ⟨(evwL.getD k []).toArray⟩
def spX : ByteArray := ⟨#[32]⟩
def evtB (t k v : Nat) : ByteArray := digB t ++ spX ++ evW k ++ spX ++ digB v
def okEv (t k v : Int) : Bool := inB t 0 739 && inB k 1 5 && inB v 0 255
abbrev evtA (t k v : Int) : Array Value := #[.int .i64 t, .int .i64 k, .int .i64 v]
abbrev evtV (t k v : Int) : Value := .agg #[.int .i64 t, .int .i64 k, .int .i64 v]
def evt2 (t k v : Int) : Value := if okEv t k v = true then .tuple #[.string (evtB t.toNat k.toNat v.toNat), .int .i64 0] else .tuple #[.string ⟨#[]⟩, .int .i64 1]
theorem evW_facts : ∀ k, k < 6 → 1 ≤ k → (evW k).size ≤ 6 ∧ evW k ≠ ⟨#[]⟩ := by decide +kernel
theorem digB_ne (n : Nat) : digB n ≠ ⟨#[]⟩ := by
  intro h
  have h1 : (digB n).data.toList = [] := by rw [h]
  have h2 : Go.Lib.decDigits n = [] := h1
  have := Go.Lib.decDigits_length n
  rw [h2] at this
  unfold Go.Lib.nDigits at this
  split at this <;> simp at this
theorem said_all : ∀ ws : List ByteArray, (∀ x ∈ ws, x ≠ ⟨#[]⟩) → saidL ws = ws := fun ws h => by
  unfold saidL
  rw [List.filter_eq_self]
  intro x hx
  simpa using h x hx
theorem evt_line (t k v : Nat) (h1 : 1 ≤ k) (h2 : k < 6) : lineB [digB t, evW k, digB v] = evtB t k v := by
  unfold lineB
  rw [said_all _ (by simp only [List.mem_cons, List.not_mem_nil, or_false]; rintro x (rfl | rfl | rfl); exact digB_ne _; exact (evW_facts k h2 h1).2; exact digB_ne _)]
  unfold joinB evtB spX
  apply ByteArray.ext
  simp [Lib.join_cons, Lib.joinTail, ByteArray.data_append]
theorem seq_one {P : Program} {ops : Array Oper} {Q : Exit → Act → World → Prop} {o : Oper} {R : List Oper} {a : Act} {w : World} (hw : Region.wanted o (yielded ops a.tmps) = true) (h : Oper.wp P o a w (wpSeq P ops Q R) Q) : wpSeq P ops Q (o :: R) a w := by
  show if _ then _ else _
  rw [if_pos hw]
  exact h
end Go.Proofs.YtneagomkohoceaaDoor
