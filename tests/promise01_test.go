package tests

import (
	"math"
	"reflect"
	"slices"
	"testing"

	"loop.example/g00644/impl"
)

type namedCall struct {
	name string
	call func() []any
}

func codeCalls() []namedCall {
	var list []namedCall
	for _, n := range anyNumbers() {
		list = append(list,
			namedCall{"CodeWord", func() []any { return []any{impl.CodeWord(n)} }},
			namedCall{"Parity", func() []any { return []any{impl.Parity(n)} }})
	}
	for _, s := range anyTexts() {
		list = append(list,
			namedCall{"NameOK", func() []any { return []any{impl.NameOK(s)} }},
			namedCall{"CodeOf", func() []any { return []any{impl.CodeOf(s)} }})
	}
	return list
}

func textCalls() []namedCall {
	var list []namedCall
	for _, s := range anyTexts() {
		list = append(list,
			namedCall{"XorOf", func() []any { return []any{impl.XorOf(s)} }},
			namedCall{"HexOf", func() []any { return []any{impl.HexOf(s)} }},
			namedCall{"BytesOf", func() []any { t, code := impl.BytesOf(s); return []any{t, code} }})
		for _, n := range anyNumbers() {
			list = append(list, namedCall{"PutWord", func() []any { t, code := impl.PutWord(s, n); return []any{t, code} }})
		}
	}
	return list
}

func cursorCalls() []namedCall {
	var list []namedCall
	for _, c := range anyCursors() {
		list = append(list,
			namedCall{"TakeByte", func() []any { x, n, code := impl.TakeByte(c); return []any{x, n, code} }},
			namedCall{"TakeWord", func() []any { x, n, code := impl.TakeWord(c); return []any{x, n, code} }})
		for _, n := range anyNumbers() {
			list = append(list, namedCall{"TakeBytes", func() []any { x, t, code := impl.TakeBytes(c, n); return []any{x, t, code} }})
		}
	}
	return list
}

// unitNumbers are the ends of what the unit takes, and what lies beside them.
func unitNumbers() []int {
	return []int{math.MinInt, -256, -1, 0, 1, 2, 3, 7, 8, 9, 15, 127, 128, 153, 154, 255, 256, 257, 1 << 32, math.MaxInt}
}

func unitCalls() []namedCall {
	var list []namedCall
	for _, a := range unitNumbers() {
		for _, b := range unitNumbers() {
			list = append(list,
				namedCall{"Inc8", func() []any { v, f, code := impl.Inc8(a, b); return []any{v, f, code} }},
				namedCall{"Dec8", func() []any { v, f, code := impl.Dec8(a, b); return []any{v, f, code} }},
				namedCall{"Daa8", func() []any { v, f, code := impl.Daa8(a, b); return []any{v, f, code} }})
			for _, c := range unitNumbers() {
				list = append(list,
					namedCall{"Add8", func() []any { v, f, code := impl.Add8(a, b, c); return []any{v, f, code} }},
					namedCall{"Sub8", func() []any { v, f, code := impl.Sub8(a, b, c); return []any{v, f, code} }},
					namedCall{"Logic8", func() []any { v, f, code := impl.Logic8(a, b, c); return []any{v, f, code} }},
					namedCall{"Turn8", func() []any { v, f, code := impl.Turn8(a, b, c); return []any{v, f, code} }},
					namedCall{"TestBit", func() []any { f, code := impl.TestBit(a, b, c); return []any{f, code} }})
			}
		}
	}
	return list
}

// frameNumbers are the ends of a frame, of its screen and of its window, and what lies beside them.
func frameNumbers() []int {
	list := anyNumbers()
	for _, end := range []int{4, 7, 128, 144, 160, 352, 368, 384, 640} {
		list = append(list, end-1, end, end+1)
	}
	return list
}

func frameCalls() []namedCall {
	list := []namedCall{{"WaitTable", func() []any { return []any{impl.WaitTable()} }}}
	for _, n := range frameNumbers() {
		list = append(list,
			namedCall{"LineOf", func() []any { line, into, code := impl.LineOf(n); return []any{line, into, code} }},
			namedCall{"IsScreen", func() []any { yes, code := impl.IsScreen(n); return []any{yes, code} }},
			namedCall{"WaitsAt", func() []any { w, code := impl.WaitsAt(n); return []any{w, code} }},
			namedCall{"FetchAt", func() []any { k, code := impl.FetchAt(n); return []any{k, code} }},
			namedCall{"InWindow", func() []any { yes, code := impl.InWindow(n); return []any{yes, code} }})
		for _, m := range frameNumbers() {
			list = append(list, namedCall{"CellOf", func() []any { k, code := impl.CellOf(n, m); return []any{k, code} }})
		}
	}
	return list
}

func memoryCalls(list []impl.Memory) []namedCall {
	var calls []namedCall
	for i, m := range list {
		other := list[(i+1)%len(list)]
		calls = append(calls,
			namedCall{"MemoryOK", func() []any { return []any{impl.MemoryOK(m)} }},
			namedCall{"SameMemory", func() []any {
				return []any{impl.SameMemory(m, m), impl.SameMemory(m, other), impl.SameMemory(other, m)}
			}})
		for _, n := range unitNumbers() {
			calls = append(calls,
				namedCall{"WhereIs", func() []any { b, p, code := impl.WhereIs(m, n); return []any{b, p, code} }},
				namedCall{"PeekAt", func() []any { v, code := impl.PeekAt(m, n); return []any{v, code} }},
				namedCall{"PokeAt", func() []any { x, code := impl.PokeAt(m, n, 5); return []any{x, code} }},
				namedCall{"PokeAt", func() []any { x, code := impl.PokeAt(m, 200, n); return []any{x, code} }},
				namedCall{"PageTo", func() []any { x, code := impl.PageTo(m, n); return []any{x, code} }},
				namedCall{"IsShared", func() []any { yes, code := impl.IsShared(m, n); return []any{yes, code} }})
		}
	}
	for _, s := range append(anyTexts(), longText(63), longText(64), longText(65)) {
		calls = append(calls, namedCall{"NewMemory", func() []any { m, code := impl.NewMemory(s); return []any{m, code} }})
	}
	return calls
}

func instrCalls() []namedCall {
	var calls []namedCall
	var list []impl.Instr
	for op := -1; op <= 24; op++ {
		for _, v := range unitNumbers() {
			list = append(list, impl.Instr{Op: op, Len: 1}, impl.Instr{Op: op, Len: v}, impl.Instr{Op: op, A: v, Len: 1}, impl.Instr{Op: op, B: v, Len: 2}, impl.Instr{Op: op, N: v, Len: 2}, impl.Instr{Op: v, A: op, B: op, Len: 2}, impl.Instr{Op: op, A: v, B: v, N: v, Len: v})
		}
	}
	for _, x := range list {
		calls = append(calls,
			namedCall{"InstrOK", func() []any { return []any{impl.InstrOK(x)} }},
			namedCall{"Encode", func() []any { bytes, code := impl.Encode(x); return []any{bytes, code} }},
			namedCall{"InstrText", func() []any { s, code := impl.InstrText(x); return []any{s, code} }},
			namedCall{"TimeOf", func() []any { n, code := impl.TimeOf(x); return []any{n, code} }})
	}
	for _, a := range unitNumbers() {
		for _, b := range unitNumbers() {
			for n := range 4 {
				calls = append(calls, namedCall{"Decode", func() []any { x, code := impl.Decode([]int{a, b, a}[:n]); return []any{x, code} }})
			}
		}
	}
	for _, s := range append(anyTexts(), "nop", "ld 6 6", "ldn 0 256", "inc 01", "db 184", "db 183", "halt 1", "  ret 7  ") {
		calls = append(calls, namedCall{"ReadInstr", func() []any { x, code := impl.ReadInstr(s); return []any{x, code} }})
	}
	return calls
}

// anyCpus are right ones in mixed states, and wrong ones.
func anyCpus() []impl.Cpu {
	list := []impl.Cpu{impl.NewCpu(), {}}
	l := lot(12)
	for range 30 {
		list = append(list, l.someCpu())
	}
	for _, w := range wrongCpus() {
		list = append(list, w.c)
	}
	return list
}

func cpuCalls(memories []impl.Memory) []namedCall {
	calls := []namedCall{{"NewCpu", func() []any { return []any{impl.NewCpu()} }}}
	for _, n := range anyNumbers() {
		calls = append(calls, namedCall{"LengthOf", func() []any { v, code := impl.LengthOf(n); return []any{v, code} }})
	}
	for i, c := range anyCpus() {
		calls = append(calls, namedCall{"CpuOK", func() []any { return []any{impl.CpuOK(c)} }})
		for _, n := range unitNumbers() {
			calls = append(calls, namedCall{"Holds", func() []any { yes, code := impl.Holds(c, n); return []any{yes, code} }})
		}
		for k := range 40 {
			m, in := memories[(7*i+k)%len(memories)], unitNumbers()[k%len(unitNumbers())]
			calls = append(calls,
				namedCall{"StepCpu", func() []any { x, n, list, code := impl.StepCpu(c, m, in); return []any{x, n, list, code} }},
				namedCall{"Interrupt", func() []any { x, n, list, code := impl.Interrupt(c, m); return []any{x, n, list, code} }},
				namedCall{"PortWanted", func() []any { port, yes, code := impl.PortWanted(c, m); return []any{port, yes, code} }})
		}
	}
	return calls
}

// anyPorts are right ones in mixed states, and wrong ones.
func anyPorts() []impl.Ports {
	list := []impl.Ports{impl.NewPorts(), {}}
	l := lot(13)
	for range 30 {
		list = append(list, l.somePorts())
	}
	return append(list, portsBeyond()...)
}

func portCalls(list []impl.Ports) []namedCall {
	calls := []namedCall{{"NewPorts", func() []any { return []any{impl.NewPorts()} }}}
	for _, n := range anyNumbers() {
		calls = append(calls, namedCall{"PortKind", func() []any { kind, code := impl.PortKind(n); return []any{kind, code} }})
	}
	for _, p := range list {
		calls = append(calls, namedCall{"PortsOK", func() []any { return []any{impl.PortsOK(p)} }})
		for i, n := range unitNumbers() {
			on := i%2 == 0
			calls = append(calls,
				namedCall{"ReadKeys", func() []any { v, code := impl.ReadKeys(p, n, on); return []any{v, code} }},
				namedCall{"WriteUla", func() []any { x, code := impl.WriteUla(p, n); return []any{x, code} }},
				namedCall{"PressKey", func() []any { x, code := impl.PressKey(p, n, 2, on); return []any{x, code} }},
				namedCall{"PressKey", func() []any { x, code := impl.PressKey(p, 5, n, on); return []any{x, code} }},
				namedCall{"PressKey", func() []any { x, code := impl.PressKey(p, n, n, on); return []any{x, code} }})
		}
	}
	return calls
}

// anyPsgs are right ones in mixed states, and wrong ones.
func anyPsgs() []impl.Psg {
	list := []impl.Psg{impl.NewPsg(), {}, fullPsg(), unlikePsg()}
	l := lot(14)
	for range 30 {
		list = append(list, l.somePsg())
	}
	return append(list, psgsBeyond()...)
}

func psgCalls(list []impl.Psg) []namedCall {
	calls := []namedCall{{"NewPsg", func() []any { return []any{impl.NewPsg()} }}}
	for _, p := range list {
		calls = append(calls,
			namedCall{"PsgOK", func() []any { return []any{impl.PsgOK(p)} }},
			namedCall{"ReadReg", func() []any { v, code := impl.ReadReg(p); return []any{v, code} }},
			namedCall{"LevelOf", func() []any { v, code := impl.LevelOf(p); return []any{v, code} }})
		for _, n := range append(unitNumbers(), 999, 1000, 1001) {
			calls = append(calls,
				namedCall{"SelectReg", func() []any { x, code := impl.SelectReg(p, n); return []any{x, code} }},
				namedCall{"WriteReg", func() []any { x, code := impl.WriteReg(p, n); return []any{x, code} }},
				namedCall{"StepPsg", func() []any { x, code := impl.StepPsg(p, n); return []any{x, code} }})
		}
	}
	return calls
}

// anyTapes are right ones, ones with a wrong block, and ones that are too long.
func anyTapes() [][]impl.Block {
	list := [][]impl.Block{nil, make([]impl.Block, impl.MaxList), make([]impl.Block, impl.MaxList+1)}
	l := lot(15)
	for n := range impl.MaxBlocks + 3 {
		for range 10 {
			list = append(list, l.someTape(n))
		}
	}
	for i, wrong := range wrongBlocks() {
		tape := l.someTape(impl.MaxBlocks)
		tape[i%len(tape)] = wrong
		list = append(list, tape)
	}
	return list
}

func tapeCalls(tapes [][]impl.Block) []namedCall {
	var calls []namedCall
	texts := anyTexts()
	for _, faulty := range faultyBlocks() {
		texts = append(texts, faulty.s, textWritten(tapeOf(3)...)+faulty.s)
	}
	for _, list := range tapes {
		calls = append(calls, namedCall{"TapText", func() []any { s, code := impl.TapText(list); return []any{s, code} }})
		texts = append(texts, textWritten(list[:min(len(list), 9)]...))
		for _, b := range list[:min(len(list), 9)] {
			calls = append(calls,
				namedCall{"BlockOK", func() []any { return []any{impl.BlockOK(b)} }},
				namedCall{"SumOf", func() []any { v, code := impl.SumOf(b); return []any{v, code} }},
				namedCall{"BlockText", func() []any { s, code := impl.BlockText(b); return []any{s, code} }})
		}
	}
	for _, s := range texts {
		calls = append(calls, namedCall{"ReadTap", func() []any { list, code := impl.ReadTap(s); return []any{list, code} }})
		for _, i := range append(unitNumbers(), len(s)-1, len(s), len(s)+1) {
			c := impl.Cursor{Data: s, At: i}
			calls = append(calls, namedCall{"TakeBlock", func() []any { x, b, code := impl.TakeBlock(c); return []any{x, b, code} }})
		}
	}
	return calls
}

// anyPulses are right ones, spoilt ones, and ones that are too long.
func anyPulses() [][]int {
	lists := somePulses()
	l := lot(16)
	for range 100 {
		lists = append(lists, l.spoiltPulses())
	}
	for _, n := range anyNumbers() {
		lists = append(lists, []int{n}, slices.Repeat([]int{n}, 8), append(signal(8, "\x01\x01"), n))
	}
	return lists
}

func pulseCalls(tapes [][]impl.Block, lists [][]int) []namedCall {
	var calls []namedCall
	for _, s := range append(anyTexts(), longText(400), longText(401)) {
		calls = append(calls, namedCall{"BitsOf", func() []any { bits, code := impl.BitsOf(s); return []any{bits, code} }})
	}
	for _, list := range tapes {
		calls = append(calls, namedCall{"TapePulses", func() []any { pulses, code := impl.TapePulses(list); return []any{pulses, code} }})
		for _, b := range list[:min(len(list), 9)] {
			calls = append(calls, namedCall{"PulsesOf", func() []any { pulses, code := impl.PulsesOf(b); return []any{pulses, code} }})
		}
	}
	for _, list := range lists {
		calls = append(calls,
			namedCall{"ByteOf", func() []any { v, code := impl.ByteOf(list); return []any{v, code} }},
			namedCall{"LengthOfTape", func() []any { n, code := impl.LengthOfTape(list); return []any{n, code} }},
			namedCall{"DecodePulses", func() []any { blocks, code := impl.DecodePulses(list); return []any{blocks, code} }})
	}
	return calls
}

// anyDecks are right ones in mixed states, and wrong ones.
func anyDecks() []impl.Deck {
	list := rightDecks()
	for _, w := range wrongDecks() {
		list = append(list, w.d)
	}
	return list
}

func deckCalls(tapes [][]impl.Block, list []impl.Deck) []namedCall {
	var calls []namedCall
	for _, tape := range tapes {
		calls = append(calls, namedCall{"NewDeck", func() []any { d, code := impl.NewDeck(tape); return []any{d, code} }})
	}
	for i, d := range list {
		other := list[(i+1)%len(list)]
		calls = append(calls,
			namedCall{"DeckOK", func() []any { return []any{impl.DeckOK(d)} }},
			namedCall{"PlayDeck", func() []any { x, code := impl.PlayDeck(d); return []any{x, code} }},
			namedCall{"StopDeck", func() []any { x, code := impl.StopDeck(d); return []any{x, code} }},
			namedCall{"RewindDeck", func() []any { x, code := impl.RewindDeck(d); return []any{x, code} }},
			namedCall{"SameDeck", func() []any {
				return []any{impl.SameDeck(d, d), impl.SameDeck(d, other), impl.SameDeck(other, d)}
			}})
		for _, n := range []int{math.MinInt, -1, 0, 1, 5, 1000, mostRun, mostRun + 1, math.MaxInt} {
			calls = append(calls, namedCall{"RunDeck", func() []any { x, edges, code := impl.RunDeck(d, n); return []any{x, edges, code} }})
		}
	}
	return calls
}

func runCalls() []namedCall {
	var calls []namedCall
	for _, s := range append(anyTexts(), runTexts()...) {
		calls = append(calls, namedCall{"Compress", func() []any { x, code := impl.Compress(s); return []any{x, code} }})
		given, _ := givenBy(s)
		for _, n := range append(anyNumbers(), len(given)-1, len(given), len(given)+1) {
			calls = append(calls, namedCall{"Expand", func() []any { x, code := impl.Expand(s, n); return []any{x, code} }})
		}
		for _, i := range append(noPlaces(s), 0, 1, len(s)/2, len(s)-1) {
			calls = append(calls, namedCall{"RunAt", func() []any { n, code := impl.RunAt(s, i); return []any{n, code} }})
		}
	}
	return calls
}

// anySnaps are right ones of all kinds, and wrong ones.
func anySnaps() []impl.Snap {
	list := rightSnaps()
	for _, w := range wrongSnaps() {
		list = append(list, w.s)
	}
	return list
}

func snapCalls(list []impl.Snap) []namedCall {
	var calls []namedCall
	for i, s := range list {
		other := list[(i+1)%len(list)]
		calls = append(calls,
			namedCall{"SnapOK", func() []any { return []any{impl.SnapOK(s)} }},
			namedCall{"SnapText", func() []any { text, code := impl.SnapText(s); return []any{text, code} }},
			namedCall{"SameSnap", func() []any {
				return []any{impl.SameSnap(s, s), impl.SameSnap(s, other), impl.SameSnap(other, s)}
			}})
	}
	for _, text := range append(anyTexts(), snapTexts()...) {
		for _, rom := range []string{"", longText(63), longText(64), longText(65), longText(impl.MaxText + 1)} {
			calls = append(calls, namedCall{"ReadSnap", func() []any { s, code := impl.ReadSnap(text, rom); return []any{s, code} }})
		}
	}
	return calls
}

// anyMachines are right ones of all kinds, and wrong ones.
func anyMachines() []impl.Machine {
	list := sharers()
	for i, m := range rightMachines() {
		if i%5 == 0 {
			list = append(list, m)
		}
	}
	for i, w := range wrongMachines() {
		if i%3 == 0 {
			list = append(list, w.m)
		}
	}
	return list
}

func machineCalls(tapes [][]impl.Block, list []impl.Machine) []namedCall {
	var calls []namedCall
	acts := append(everyKindOfAct(), wrongActs()...)
	for i, m := range list {
		other := list[(i+1)%len(list)]
		calls = append(calls,
			namedCall{"MachineOK", func() []any { return []any{impl.MachineOK(m)} }},
			namedCall{"StepMachine", func() []any { x, code := impl.StepMachine(m); return []any{x, code} }},
			namedCall{"RunFrame", func() []any { x, code := impl.RunFrame(m); return []any{x, code} }},
			namedCall{"SameMachine", func() []any {
				return []any{impl.SameMachine(m, m), impl.SameMachine(m, other), impl.SameMachine(other, m)}
			}})
		for k, n := range unitNumbers() {
			a := acts[(7*i+k)%len(acts)]
			calls = append(calls,
				namedCall{"PortValue", func() []any { v, code := impl.PortValue(m, n); return []any{v, code} }},
				namedCall{"CyclesTime", func() []any {
					v, code := impl.CyclesTime(m, []impl.Cycle{{Kind: 1, Address: 70}, {Kind: k % 7, Address: n, Value: i}})
					return []any{v, code}
				}},
				namedCall{"ActDo", func() []any { x, code := impl.ActDo(m, a); return []any{x, code} }})
		}
	}
	for _, a := range append(acts, rightActs()...) {
		calls = append(calls, namedCall{"ActOK", func() []any { return []any{impl.ActOK(a)} }})
	}
	for i, tape := range tapes {
		for _, rom := range []string{"", longText(64), longText(65), longText(impl.MaxText + 1)} {
			run := acts[i%len(acts) : min(i%len(acts)+i%50, len(acts))]
			calls = append(calls,
				namedCall{"NewMachine", func() []any { m, code := impl.NewMachine(rom, tape); return []any{m, code} }},
				namedCall{"ActsRun", func() []any { m, codes, code := impl.ActsRun(rom, tape, run); return []any{m, codes, code} }},
				namedCall{"ActsRun", func() []any {
					m, codes, code := impl.ActsRun(rom, tape, everyKindOfAct()[:9])
					return []any{m, codes, code}
				}})
		}
	}
	return calls
}

// anyActTexts are those of acts, and spoilt ones.
func anyActTexts() []string {
	list := anyTexts()
	for _, a := range rightActs() {
		s := actTextWritten(a)
		list = append(list, s, " "+s+"  ", s[1:], s+"x", s+" 1", times(impl.MaxText, " ")+s)
	}
	return list
}

// anyCodes are lists of bytes, of numbers that are none, and ones that are too long.
func anyCodes() [][]int {
	var lists [][]int
	l := lot(17)
	for _, n := range []int{0, 1, 2, 3, 64, 255, 256, 257, impl.MaxList, impl.MaxList + 1} {
		for i := range 20 {
			bytes := l.someCode(n)
			if n > 0 && i%3 == 0 {
				bytes[l.below(n)] = unitNumbers()[i%len(unitNumbers())]
			}
			lists = append(lists, bytes)
		}
	}
	return lists
}

func lineCalls(machines []impl.Machine, codes [][]int) []namedCall {
	var calls []namedCall
	var events []impl.Event
	for _, m := range machines {
		calls = append(calls,
			namedCall{"MachineLines", func() []any { list, code := impl.MachineLines(m); return []any{list, code} }},
			namedCall{"ScreenLines", func() []any { list, code := impl.ScreenLines(m); return []any{list, code} }},
			namedCall{"CpuText", func() []any { s, code := impl.CpuText(m.Cpu); return []any{s, code} }})
		events = append(events, m.Events[:min(len(m.Events), 9)]...)
	}
	for _, n := range unitNumbers() {
		events = append(events, event(n, 1, 1), event(1, n, 1), event(1, 1, n), event(n, n, n))
	}
	for _, c := range anyCpus() {
		calls = append(calls, namedCall{"CpuText", func() []any { s, code := impl.CpuText(c); return []any{s, code} }})
	}
	for _, e := range events {
		calls = append(calls, namedCall{"EventText", func() []any { s, code := impl.EventText(e); return []any{s, code} }})
	}
	for _, a := range append(rightActs(), wrongActs()...) {
		calls = append(calls, namedCall{"ActText", func() []any { s, code := impl.ActText(a); return []any{s, code} }})
	}
	for _, s := range anyActTexts() {
		calls = append(calls, namedCall{"ReadAct", func() []any { a, code := impl.ReadAct(s); return []any{a, code} }})
	}
	for _, bytes := range codes {
		calls = append(calls, namedCall{"ListCode", func() []any { list, code := impl.ListCode(bytes); return []any{list, code} }})
	}
	return calls
}

// anyScripts are lists of lines of which most are none.
func anyScripts() [][]string {
	list := append(manyScripts(), anyTexts(), make([]string, impl.MaxLines), make([]string, 2*impl.MaxList))
	for _, s := range slices.Concat(anyTexts(), wrongLines(), spoilt("7")) {
		list = append(list, []string{s}, []string{"tape " + s}, []string{"peek " + s, "poke 70 " + s, "poke " + s + " 70"}, []string{s, "play", "load", s, "machine"})
	}
	return list
}

func consoleCalls(scripts [][]string) []namedCall {
	calls := []namedCall{{"PlainRom", func() []any { return []any{impl.PlainRom()} }}}
	for _, lines := range scripts {
		calls = append(calls,
			namedCall{"RunLines", func() []any { m, said, code := impl.RunLines(lines); return []any{m, said, code} }},
			namedCall{"Console", func() []any { s, code := impl.Console(asText(lines)); return []any{s, code} }})
	}
	for _, s := range anyTexts() {
		calls = append(calls, namedCall{"Console", func() []any { said, code := impl.Console(s); return []any{said, code} }})
	}
	return calls
}

func anyMemories() []impl.Memory {
	list := settings()
	for _, w := range wrongMemories() {
		list = append(list, w.m)
	}
	return list
}

// Each call is made twice, the second time in the other order, so that all calls lie between the first two, and other ones ahead of each.
func TestPromise1(t *testing.T) {
	memories, ports, psgs, tapes, pulses := anyMemories(), anyPorts(), anyPsgs(), anyTapes(), anyPulses()
	decks, snaps, machines, codes, scripts := anyDecks(), anySnaps(), anyMachines(), anyCodes(), anyScripts()
	calls := slices.Concat(codeCalls(), textCalls(), cursorCalls(), unitCalls(), frameCalls(), memoryCalls(memories), instrCalls(), cpuCalls(memories), portCalls(ports), psgCalls(psgs), tapeCalls(tapes), pulseCalls(tapes, pulses), deckCalls(tapes, decks), runCalls(), snapCalls(snaps), machineCalls(tapes, machines), lineCalls(machines, codes), consoleCalls(scripts))
	first := make([][]any, len(calls))
	for i, c := range calls {
		answers, panicked := caught(c.call)
		if panicked {
			t.Fatal(c.name, "panics:", answers)
		}
		first[i] = answers
	}
	for i := len(calls) - 1; i >= 0; i-- {
		answers, panicked := caught(calls[i].call)
		if panicked || !reflect.DeepEqual(answers, first[i]) {
			t.Fatal(calls[i].name, "answers", short(answers), "after", short(first[i]))
		}
	}
	if !reflect.DeepEqual(memories, anyMemories()) {
		t.Fatal("a memory that was handed in is changed")
	}
	if !slices.Equal(ports, anyPorts()) {
		t.Fatal("ports that were handed in are changed")
	}
	if !slices.Equal(psgs, anyPsgs()) {
		t.Fatal("a sound chip that was handed in is changed")
	}
	if !reflect.DeepEqual(tapes, anyTapes()) {
		t.Fatal("a list of blocks that was handed in is changed")
	}
	if !reflect.DeepEqual(pulses, anyPulses()) {
		t.Fatal("a list of pulses that was handed in is changed")
	}
	if !reflect.DeepEqual(decks, anyDecks()) {
		t.Fatal("a deck that was handed in is changed")
	}
	if !reflect.DeepEqual(snaps, anySnaps()) {
		t.Fatal("a snapshot that was handed in is changed")
	}
	if !reflect.DeepEqual(machines, anyMachines()) {
		t.Fatal("a machine that was handed in is changed")
	}
	if !reflect.DeepEqual(codes, anyCodes()) {
		t.Fatal("a list of code that was handed in is changed")
	}
	if !reflect.DeepEqual(scripts, anyScripts()) {
		t.Fatal("a list of lines that was handed in is changed")
	}
}
