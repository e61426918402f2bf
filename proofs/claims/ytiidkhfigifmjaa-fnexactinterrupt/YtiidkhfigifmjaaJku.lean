/- The statement by which the specification gives a processor back that takes no interrupt. -/
import Derived.Test.YtiidkhfigifmjaaU18
namespace Go.Proofs.Ytiidkhfigifmjaa
open Go.ChangeShapes Go.WideShapes Go.ChangeAt Go.RowKit
set_option linter.unusedVariables false
set_option linter.unusedSimpArgs false

/-- the world while the statement is done: which of its operations have been done -/
structure KW (s : Nat) (d : Cp) (M : Mem) (mA : Array Value) (mv : Value) (W0 w0 w : World) (l2 l3 l4 l5 : Bool) (vr vm : Value) (lo hi E : Nat) : Prop where
  q0 : Blk w s (cpA d)
  q1 : Blk w (s + 1) mA
  q2 : Blk w (s + 1 + 1) (bif l4 then cpA d else zC)
  q3 : Blk w (s + 1 + 1 + 1) (bif l5 then #[vr, vm, .int .i64 M.page, .int .i64 M.screen, .bool M.locked] else zM)
  bel : Below w0.heap.size w0 w
  ord : w0.heap.size ≤ s ∧ s + 1 + 1 + 1 < W0.heap.size ∧ W0.heap.size ≤ w.heap.size
  old : l2 = false → MemR w mv M ∧ l4 = false ∧ l5 = false
  mem : l2 = true → MemO w lo hi (memV vr vm M.page M.screen M.locked) M ∧ W0.heap.size ≤ lo ∧ hi ≤ w.heap.size
  row : l3 = true → w.heap[E]? = some (.cells #[] 64 (0, 0)) ∧ W0.heap.size ≤ E
  apart : l2 = true → l3 = true → E < lo ∨ hi ≤ E
theorem KW.called {s : Nat} {d : Cp} {M : Mem} {mA : Array Value} {mv : Value} {W0 w0 w w' : World} {l3 l4 l5 : Bool} {vr vm vr' vm' : Value} {lo hi E : Nat} (h : KW s d M mA mv W0 w0 w false l3 l4 l5 vr vm lo hi E)
    (hb : Below w.heap.size w w') (hm : MemO w' w.heap.size w'.heap.size (memV vr' vm' M.page M.screen M.locked) M) : KW s d M mA mv W0 w0 w' true l3 l4 l5 vr' vm' w.heap.size w'.heap.size E := by
  obtain ⟨_, h4, h5⟩ := h.old rfl
  subst h4 h5
  obtain ⟨o1, o2, o3⟩ := h.ord
  have hz := hb.size
  refine ⟨h.q0.below hb h.q0.lt, h.q1.below hb h.q1.lt, h.q2.below hb h.q2.lt, h.q3.below hb h.q3.lt, new_trans h.bel hb, ⟨o1, o2, by omega⟩, fun e => (by cases e), fun _ => ⟨hm, o3, Nat.le_refl _⟩, fun e => ?_, fun _ e => ?_⟩
  · obtain ⟨k1, k2⟩ := h.row e
    exact ⟨(hb.block E (Array.getElem?_eq_some_iff.1 k1).1).trans k1, k2⟩
  · exact .inl (Array.getElem?_eq_some_iff.1 (h.row e).1).1
theorem KW.made {s : Nat} {d : Cp} {M : Mem} {mA : Array Value} {mv : Value} {W0 w0 w : World} {l2 l4 l5 : Bool} {vr vm : Value} {lo hi E : Nat} (h : KW s d M mA mv W0 w0 w l2 false l4 l5 vr vm lo hi E) : KW s d M mA mv W0 w0 (w.alloc (.cells #[] 64)) l2 true l4 l5 vr vm lo hi w.heap.size := by
  have hb := (Below.refl w.heap.size w).alloc (Nat.le_refl _) (.cells #[] 64)
  obtain ⟨o1, o2, o3⟩ := h.ord
  refine ⟨h.q0.alloc _, h.q1.alloc _, h.q2.alloc _, h.q3.alloc _, new_trans h.bel hb, ⟨o1, o2, by rw [World.size_alloc]; omega⟩, fun e => ⟨(h.old e).1.below hb, (h.old e).2⟩, fun e => ?_, fun _ => ⟨heap_alloc_new w _, o3⟩, fun e _ => .inr (h.mem e).2.2⟩
  obtain ⟨k1, k2, k3⟩ := h.mem e
  exact ⟨k1.below hb k3, k2, by rw [World.size_alloc]; omega⟩
theorem KW.other {s : Nat} {d : Cp} {M : Mem} {mA : Array Value} {mv : Value} {W0 w0 w w' : World} {l3 l4 l5 l4' l5' : Bool} {vr vm : Value} {lo hi E : Nat} (h : KW s d M mA mv W0 w0 w true l3 l4 l5 vr vm lo hi E)
    (hk : ∀ b, b ≠ s + 1 + 1 → b ≠ s + 1 + 1 + 1 → w'.heap[b]? = w.heap[b]?) (hs : w'.heap.size = w.heap.size) (hB : Below w0.heap.size w0 w') (q2 : Blk w' (s + 1 + 1) (bif l4' then cpA d else zC)) (q3 : Blk w' (s + 1 + 1 + 1) (bif l5' then #[vr, vm, .int .i64 M.page, .int .i64 M.screen, .bool M.locked] else zM)) :
    KW s d M mA mv W0 w0 w' true l3 l4' l5' vr vm lo hi E := by
  obtain ⟨o1, o2, o3⟩ := h.ord
  have e : ∀ {b : Nat} {A : Array Value}, Blk w b A → b ≠ s + 1 + 1 → b ≠ s + 1 + 1 + 1 → Blk w' b A := fun {b A} q h1 h2 => let ⟨t, q⟩ := q; ⟨t, (hk b h1 h2).trans q⟩
  refine ⟨e h.q0 (by omega) (by omega), e h.q1 (by omega) (by omega), q2, q3, hB, ⟨o1, o2, by omega⟩, fun e => (by cases e), fun _ => ?_, fun e => ?_, h.apart⟩
  · obtain ⟨k1, k2, k3⟩ := h.mem rfl
    exact ⟨k1.kept (fun b h0 _ => hk b (by omega) (by omega)), k2, by omega⟩
  · obtain ⟨k1, k2⟩ := h.row e
    exact ⟨(hk E (by omega) (by omega)).trans k1, k2⟩
theorem KW.st4 {s : Nat} {d : Cp} {M : Mem} {mA : Array Value} {mv : Value} {W0 w0 w : World} {l3 l5 : Bool} {vr vm : Value} {lo hi E : Nat} (h : KW s d M mA mv W0 w0 w true l3 false l5 vr vm lo hi E) : KW s d M mA mv W0 w0 (sets w (s + 1 + 1) 0 (cpuL d)) true l3 true l5 vr vm lo hi E := by
  refine h.other (fun b h1 h2 => sets_heap _ _ _ _ _ h1) (sets_size _ _ _ _) (sets_below _ _ _ _ _ _ h.bel (by have := h.ord; omega)) ?_ (h.q3.grown (sets_grown _ _ _ _) (by simp))
  have := sets_blk (s + 1 + 1) (cpuL d) w 0 _ h.q2
  rw [show setsA 0 (cpuL d) (bif false then cpA d else zC) = cpA d from setsC d] at this
  exact this
theorem KW.st5 {s : Nat} {d : Cp} {M : Mem} {mA : Array Value} {mv : Value} {W0 w0 w : World} {l3 l4 : Bool} {vr vm : Value} {lo hi E : Nat} (h : KW s d M mA mv W0 w0 w true l3 l4 false vr vm lo hi E) : KW s d M mA mv W0 w0 (sets w (s + 1 + 1 + 1) 0 (meL vr vm M)) true l3 l4 true vr vm lo hi E := by
  refine h.other (fun b h1 h2 => sets_heap _ _ _ _ _ h2) (sets_size _ _ _ _) (sets_below _ _ _ _ _ _ h.bel (by have := h.ord; omega)) (h.q2.grown (sets_grown _ _ _ _) (by simp)) ?_
  have := sets_blk (s + 1 + 1 + 1) (meL vr vm M) w 0 _ h.q3
  rw [show setsA 0 (meL vr vm M) (bif false then #[vr, vm, .int .i64 M.page, .int .i64 M.screen, .bool M.locked] else zM) = #[vr, vm, .int .i64 M.page, .int .i64 M.screen, .bool M.locked] from setsM vr vm M] at this
  exact this
theorem KW.ans {s : Nat} {d : Cp} {M : Mem} {mA : Array Value} {mv : Value} {W0 w0 w : World} {vr vm : Value} {lo hi E : Nat} (h : KW s d M mA mv W0 w0 w true true true true vr vm lo hi E) : Ans w0 w ⟨d, M, []⟩ (memV vr vm M.page M.screen M.locked) (.slice (some ⟨E, 0, none⟩) 0 0) := by
  obtain ⟨o1, o2, o3⟩ := h.ord
  obtain ⟨k1, k2, k3⟩ := h.mem rfl
  obtain ⟨k4, k5⟩ := h.row rfl
  exact ans_empty k1 (by omega) k3 k4 (by omega) (h.apart rfl rfl) h.bel
theorem KW.drew {s : Nat} {d : Cp} {M : Mem} {mA : Array Value} {mv : Value} {W0 w0 : World} {vr vm : Value} {lo hi E : Nat} (q0 : Blk W0 s (cpA d)) (q1 : Blk W0 (s + 1) mA) (q2 : Blk W0 (s + 1 + 1) zC) (q3 : Blk W0 (s + 1 + 1 + 1) zM) (hB : Below w0.heap.size w0 W0) (hw0 : w0.heap.size ≤ s) (hm : MemR W0 mv M) : KW s d M mA mv W0 w0 W0.drew false false false false vr vm lo hi E :=
  ⟨q0, q1, q2, q3, hB.drew, ⟨hw0, q3.lt, Nat.le_refl _⟩, fun _ => ⟨hm, rfl, rfl⟩, fun e => (by cases e), fun e => (by cases e), fun e => (by cases e)⟩
set_option maxRecDepth 100000 in
set_option maxHeartbeats 4000000 in
theorem int_halt_ret (T0 T1 T11 T12 T13 T14 T18 T19 T20 T21 T22 T23 T24 : Value) (s : Nat) (d : Cp) (a1 a2 : Option Addr) (p1 p2 : Nat) (M : Mem) (W w0 : World) (df : List Deferred) (Q : Exit → Act → World → Prop)
    (q0 : Blk W s (cpA d)) (q1 : Blk W (s + 1) #[.slice a1 M.rom.length p1, .slice a2 M.ram.length p2, .int .i64 M.page, .int .i64 M.screen, .bool M.locked]) (q2 : Blk W (s + 1 + 1) zC) (q3 : Blk W (s + 1 + 1 + 1) zM) (hB : Below w0.heap.size w0 W) (hw0 : w0.heap.size ≤ s) (hmr : MemR W (memV (.slice a1 M.rom.length p1) (.slice a2 M.ram.length p2) M.page M.screen M.locked) M)
    (hown : ∀ W', MemR W' (memV (.slice a1 M.rom.length p1) (.slice a2 M.ram.length p2) M.page M.screen M.locked) M → Calls Try.prog 31 #[memV (.slice a1 M.rom.length p1) (.slice a2 M.ram.length p2) M.page M.screen M.locked] W' fun e w' => ∃ u, e = .returned u ∧ MemO w' W'.heap.size w'.heap.size u M ∧ Below W'.heap.size W' w')
    (h : ∀ (tm : Array Value) (WF : World) (vr vm cv : Value), tm[4]? = some (.pointer (some ⟨s + 1 + 1, 0, none⟩)) → tm[5]? = some (.pointer (some ⟨s + 1 + 1 + 1, 0, none⟩)) → tm[6]? = some cv → tm[7]? = some (.int .i64 19) → (∀ i, WF.cell? ⟨s + 1 + 1, i, none⟩ = (cpA d)[i]?) → (∀ i, WF.cell? ⟨s + 1 + 1 + 1, i, none⟩ = (#[vr, vm, .int .i64 M.page, .int .i64 M.screen, .bool M.locked] : Array Value)[i]?) → Ans w0 WF ⟨d, M, []⟩ (memV vr vm M.page M.screen M.locked) cv → Q .normal { tmps := tm, defers := df } WF) :
    (Code.region 4 #[({ dst := some 25, op := Op.load 25 (Operand.tmp 2), type := 25, pos := "l06_cpu.go:264", after := #[], guard := none } : Oper), ({ dst := some 26, op := Op.load 30 (Operand.tmp 3), type := 30, pos := "l06_cpu.go:264", after := #[], guard := none } : Oper), ({ dst := some 27, op := Op.call { callee := Callee.value (Operand.func 31), args := #[Operand.tmp 26], argTypes := #[30] }, type := 30, pos := "l06_cpu.go:264", after := #[{ on := 1, ground := Ground.data }], guard := none } : Oper), ({ dst := some 28, op := Op.buildSlice 32 0 #[], type := 32, pos := "l06_cpu.go:264", after := #[{ on := 5, ground := Ground.gcOnly Departure.lateStores }], guard := none } : Oper), ({ dst := none, op := Op.store 25 (Operand.tmp 4) (Operand.tmp 25), type := 0, pos := "l06_cpu.go:264", after := #[{ on := 0, ground := Ground.data }, { on := 2, ground := Ground.chain }, { on := 0, ground := Ground.phase }, { on := 1, ground := Ground.textOnly Departure.lateStores }, { on := 2, ground := Ground.textOnly Departure.lateStoresUnsure }, { on := 3, ground := Ground.textOnly Departure.lateStores }], guard := none } : Oper), ({ dst := none, op := Op.store 30 (Operand.tmp 5) (Operand.tmp 27), type := 0, pos := "l06_cpu.go:264", after := #[{ on := 2, ground := Ground.data }, { on := 4, ground := Ground.chain }, { on := 0, ground := Ground.phase }, { on := 1, ground := Ground.phase }, { on := 2, ground := Ground.phase }, { on := 3, ground := Ground.textOnly Departure.lateStores }, { on := 4, ground := Ground.phase }], guard := none } : Oper), ({ dst := some 6, op := Op.assign (Operand.tmp 28), type := 32, pos := "l06_cpu.go:264", after := #[{ on := 3, ground := Ground.data }, { on := 5, ground := Ground.chain }, { on := 0, ground := Ground.phase }, { on := 1, ground := Ground.phase }, { on := 2, ground := Ground.phase }, { on := 3, ground := Ground.phase }, { on := 4, ground := Ground.phase }, { on := 5, ground := Ground.phase }], guard := none } : Oper), ({ dst := some 7, op := Op.assign (Operand.const (Value.int IntKind.i64 19)), type := 3, pos := "l06_cpu.go:264", after := #[{ on := 6, ground := Ground.chain }, { on := 0, ground := Ground.phase }, { on := 1, ground := Ground.phase }, { on := 2, ground := Ground.phase }, { on := 3, ground := Ground.phase }, { on := 4, ground := Ground.phase }, { on := 5, ground := Ground.phase }, { on := 6, ground := Ground.phase }], guard := none } : Oper)] true).wp Try.prog Q { tmps := #[T0, T1, .pointer (some ⟨s, 0, none⟩), .pointer (some ⟨s + 1, 0, none⟩), .pointer (some ⟨s + 1 + 1, 0, none⟩), .pointer (some ⟨s + 1 + 1 + 1, 0, none⟩), .slice none 0 0, .int .i64 0, undef, undef, undef, T11, T12, T13, T14, undef, undef, undef, T18, T19, T20, T21, T22, T23, T24, undef, undef, undef, undef, undef, undef, undef, undef, undef, undef, undef, undef, undef, undef, undef], defers := df } W := by
  have hst := hid (KW.drew (vr := undef) (vm := undef) (lo := 0) (hi := 0) (E := 0) q0 q1 q2 q3 hB hw0 hmr)
  replace hown := hid hown
  replace h := hid h
  clear q0 q1 q2 q3 hB hw0 hmr
  refine wp_region_inv (by kernel_rfl) (fun listed a w => ∃ (l0 l1 l2 l3 l4 l5 l6 l7 : Bool) (x6 x7 x25 x26 x27 x28 vr vm : Value) (g1 g2 : Option Addr) (c1 c2 lo hi E : Nat), listed = #[l0, l1, l2, l3, l4, l5, l6, l7] ∧ a = { tmps := #[T0, T1, .pointer (some ⟨s, 0, none⟩), .pointer (some ⟨s + 1, 0, none⟩), .pointer (some ⟨s + 1 + 1, 0, none⟩), .pointer (some ⟨s + 1 + 1 + 1, 0, none⟩), x6, x7, undef, undef, undef, T11, T12, T13, T14, undef, undef, undef, T18, T19, T20, T21, T22, T23, T24, x25, x26, x27, x28, undef, undef, undef, undef, undef, undef, undef, undef, undef, undef, undef], defers := df } ∧
      (l0 = true → x25 = cpV d) ∧ (l1 = true → x26 = memV (.slice a1 M.rom.length p1) (.slice a2 M.ram.length p2) M.page M.screen M.locked) ∧ (l2 = true → x27 = memV vr vm M.page M.screen M.locked ∧ vr = .slice g1 M.rom.length c1 ∧ vm = .slice g2 M.ram.length c2) ∧ (l3 = true → x28 = .slice (some ⟨E, 0, none⟩) 0 0) ∧ (l6 = true → x6 = .slice (some ⟨E, 0, none⟩) 0 0) ∧ (l7 = true → x7 = .int .i64 19) ∧ (l6 = true → l3 = true) ∧
      KW s d M #[.slice a1 M.rom.length p1, .slice a2 M.ram.length p2, .int .i64 M.page, .int .i64 M.screen, .bool M.locked] (memV (.slice a1 M.rom.length p1) (.slice a2 M.ram.length p2) M.page M.screen M.locked) W w0 w l2 l3 l4 l5 vr vm lo hi E) ?_ (by kernel_rfl) ?_ ?_ ?_
  · intro listed a w i o hI hun ho hdep K hK
    obtain ⟨l0, l1, l2, l3, l4, l5, l6, l7, x6, x7, x25, x26, x27, x28, vr, vm, g1, g2, c1, c2, lo, hi, E, rfl, rfl, e0, e1, e2, e3, e6, e7, h63, hW⟩ := hI
    have hi8 : i < 8 := (Array.getElem?_eq_some_iff.1 ho).1
    replace hK := hid hK
    replace e0 := hid e0
    replace e1 := hid e1
    replace e2 := hid e2
    replace e3 := hid e3
    replace e6 := hid e6
    replace e7 := hid e7
    replace h63 := hid h63
    rcases (by omega : i = 0 ∨ i = 1 ∨ i = 2 ∨ i = 3 ∨ i = 4 ∨ i = 5 ∨ i = 6 ∨ i = 7) with rfl | rfl | rfl | rfl | rfl | rfl | rfl | rfl
    · obtain rfl := Option.some.inj ho
      have y := hW.q0.cell
      clear hdep ho hi8 hun
      go_simp
      exact hK.out _ _ ⟨true, l1, l2, l3, l4, l5, l6, l7, x6, x7, _, x26, x27, x28, vr, vm, g1, g2, c1, c2, lo, hi, E, rfl, rfl, fun _ => rfl, e1.out, e2.out, e3.out, e6.out, e7.out, h63.out, hW⟩
    · obtain rfl := Option.some.inj ho
      have y := hW.q1.cell
      clear hdep ho hi8 hun
      go_simp
      exact hK.out _ _ ⟨l0, true, l2, l3, l4, l5, l6, l7, x6, x7, x25, _, x27, x28, vr, vm, g1, g2, c1, c2, lo, hi, E, rfl, rfl, e0.out, fun _ => rfl, e2.out, e3.out, e6.out, e7.out, h63.out, hW⟩
    · obtain rfl := Option.some.inj ho
      have k1 : l1 = true := hdep { on := 1, ground := .data } (by simp) rfl
      have k2 : l2 = false := hun
      subst k2
      obtain rfl := e1.out k1
      clear hdep ho hi8 hun
      go_simp
      go_at_call 31
      refine (hown.out _ (hW.old rfl).1).mono ?_
      rintro e w3 ⟨u, rfl, hm3, hb3⟩
      obtain ⟨g1', h1', g2', h2', rfl, _, _⟩ := hm3.reads.form
      have hE := hid (hW.called hb3 hm3)
      clear hm3 hb3
      go_simp
      exact hK.out _ _ ⟨l0, l1, true, l3, l4, l5, l6, l7, x6, x7, x25, _, _, x28, _, _, g1', g2', h1', h2', _, _, E, rfl, rfl, e0.out, fun _ => rfl, fun _ => ⟨rfl, rfl, rfl⟩, e3.out, e6.out, e7.out, h63.out, hE.out⟩
    · obtain rfl := Option.some.inj ho
      have k3 : l3 = false := hun
      subst k3
      have hE := hid hW.made
      clear hdep ho hi8 hun
      go_simp
      exact hK.out _ _ ⟨l0, l1, l2, true, l4, l5, l6, l7, x6, x7, x25, x26, x27, _, vr, vm, g1, g2, c1, c2, lo, hi, _, rfl, rfl, e0.out, e1.out, e2.out, fun _ => rfl, fun h6 => absurd (h63.out h6) (by simp), e7.out, fun _ => rfl, hE.out⟩
    · obtain rfl := Option.some.inj ho
      have k0 : l0 = true := hdep { on := 0, ground := .data } (by simp) rfl
      have k2 : l2 = true := hdep { on := 2, ground := .chain } (by simp) rfl
      have k4 : l4 = false := hun
      subst k2 k4
      obtain rfl := e0.out k0
      have y := hW.q2.cell
      have f := hW.q2.frozen
      have l := hW.q2.lt
      have hE := hid hW.st4
      clear hdep ho hi8 hun
      go_simp
      exact hK.out _ _ ⟨l0, l1, true, l3, true, l5, l6, l7, x6, x7, _, x26, x27, x28, vr, vm, g1, g2, c1, c2, lo, hi, E, rfl, rfl, fun _ => rfl, e1.out, e2.out, e3.out, e6.out, e7.out, h63.out, hE.out⟩
    · obtain rfl := Option.some.inj ho
      have k2 : l2 = true := hdep { on := 2, ground := .data } (by simp) rfl
      have k5 : l5 = false := hun
      subst k2 k5
      obtain ⟨rfl, rfl, rfl⟩ := e2.out rfl
      have y := hW.q3.cell
      have f := hW.q3.frozen
      have l := hW.q3.lt
      have hE := hid hW.st5
      clear hdep ho hi8 hun
      go_simp
      exact hK.out _ _ ⟨l0, l1, true, l3, l4, true, l6, l7, x6, x7, x25, x26, _, x28, _, _, g1, g2, c1, c2, lo, hi, E, rfl, rfl, e0.out, e1.out, fun _ => ⟨rfl, rfl, rfl⟩, e3.out, e6.out, e7.out, h63.out, hE.out⟩
    · obtain rfl := Option.some.inj ho
      have k3 : l3 = true := hdep { on := 3, ground := .data } (by simp) rfl
      obtain rfl := e3.out k3
      clear hdep ho hi8 hun
      go_simp
      exact hK.out _ _ ⟨l0, l1, l2, l3, l4, l5, true, l7, _, x7, x25, x26, x27, _, vr, vm, g1, g2, c1, c2, lo, hi, E, rfl, rfl, e0.out, e1.out, e2.out, fun _ => rfl, fun _ => rfl, e7.out, fun _ => k3, hW⟩
    · obtain rfl := Option.some.inj ho
      clear hdep ho hi8 hun
      go_simp
      exact hK.out _ _ ⟨l0, l1, l2, l3, l4, l5, l6, true, x6, _, x25, x26, x27, x28, vr, vm, g1, g2, c1, c2, lo, hi, E, rfl, rfl, e0.out, e1.out, e2.out, e3.out, e6.out, fun _ => rfl, h63.out, hW⟩
  · rintro listed a w ⟨l0, l1, l2, l3, l4, l5, l6, l7, x6, x7, x25, x26, x27, x28, vr, vm, g1, g2, c1, c2, lo, hi, E, rfl, _⟩
    rfl
  · rintro listed a w ⟨l0, l1, l2, l3, l4, l5, l6, l7, x6, x7, x25, x26, x27, x28, vr, vm, g1, g2, c1, c2, lo, hi, E, rfl, rfl, e0, e1, e2, e3, e6, e7, h63, hW⟩ hall
    obtain rfl : l2 = true := hall 2 (by decide)
    obtain rfl : l3 = true := hall 3 (by decide)
    obtain rfl : l4 = true := hall 4 (by decide)
    obtain rfl : l5 = true := hall 5 (by decide)
    obtain rfl := e6 (hall 6 (by decide))
    obtain rfl := e7 (hall 7 (by decide))
    exact h.out _ _ vr vm _ rfl rfl rfl rfl hW.q2.cell hW.q3.cell hW.ans
  · exact ⟨false, false, false, false, false, false, false, false, _, _, _, _, _, _, undef, undef, none, none, 0, 0, 0, 0, 0, rfl, rfl, fun e => (by cases e), fun e => (by cases e), fun e => (by cases e), fun e => (by cases e), fun e => (by cases e), fun e => (by cases e), fun e => (by cases e), hst.out⟩
end Go.Proofs.Ytiidkhfigifmjaa
