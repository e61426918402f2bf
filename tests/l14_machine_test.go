package tests

import (
	"fmt"
	"math"
	"slices"
	"testing"

	"loop.example/g00644/impl"
)

const (
	lastT      = 639
	lastFrame  = 1000000
	mostSaved  = 1000
	mostEvents = 1000
)

type namedMachine struct {
	name string
	m    impl.Machine
}

// newMachine is put together by hand, with a tape of one block.
func newMachine(rom string) impl.Machine {
	s := newSnap()
	m := impl.Machine{Cpu: s.Cpu, Memory: s.Memory, Ports: s.Ports, Psg: impl.Psg{Regs: [8]int{3: 15}, Shift: 1}}
	m.Memory.Rom = cellsOf(rom)
	m.Deck = deckOf(tapePulsesWritten(impl.Block{Flag: 255}), 0, 48, false, false)
	return m
}

// plainMachine is none of new parts, and has something to tell of all of them.
func plainMachine() impl.Machine {
	s := plainSnap()
	return impl.Machine{
		Cpu: s.Cpu, Memory: s.Memory, Ports: s.Ports, Psg: unlikePsg(),
		Deck: deckOf(mixedPulses(30), 7, 200, true, true),
		T:    300, Frames: 77, PsgT: 9, Saved: "a text", Events: somePlainEvents(),
	}
}

func somePlainEvents() []impl.Event {
	return []impl.Event{{T: 0, Kind: 5, Value: 200}, {T: 31, Kind: 4, Value: 255}, {T: 99, Kind: 1, Value: 6}, {T: 99, Kind: 2, Value: 1}, {T: 280, Kind: 3, Value: 0}}
}

func copyMachine(m impl.Machine) impl.Machine {
	m.Memory, m.Deck, m.Events = copyOf(m.Memory), copyDeck(m.Deck), slices.Clone(m.Events)
	return m
}

// alikeMachines goes field by field, with no call of the program.
func alikeMachines(a, b impl.Machine) bool {
	return a.Cpu == b.Cpu && sameCells(a.Memory, b.Memory) && a.Ports == b.Ports && a.Psg == b.Psg && alikeDecks(a.Deck, b.Deck) &&
		a.T == b.T && a.Frames == b.Frames && a.PsgT == b.PsgT && a.Saved == b.Saved && slices.Equal(a.Events, b.Events)
}

func isZeroMachine(m impl.Machine) bool {
	s := impl.Snap{Cpu: m.Cpu, Memory: m.Memory, Ports: m.Ports}
	return isZeroSnap(s) && m.Psg == impl.Psg{} && isZeroDeck(m.Deck) && m.T == 0 && m.Frames == 0 && m.PsgT == 0 && m.Saved == "" && len(m.Events) == 0
}

// partsApart names the parts in which two machines differ.
func partsApart(got, want impl.Machine) string {
	text := ""
	add := func(name string, apart bool, a, b any) {
		if apart {
			text += fmt.Sprintf("\n%s is %.200s, not %.200s", name, fmt.Sprintf("%+v", a), fmt.Sprintf("%+v", b))
		}
	}
	add("Cpu", got.Cpu != want.Cpu, got.Cpu, want.Cpu)
	add("Memory", !sameCells(got.Memory, want.Memory), got.Memory, want.Memory)
	add("Ports", got.Ports != want.Ports, got.Ports, want.Ports)
	add("Psg", got.Psg != want.Psg, got.Psg, want.Psg)
	add("Deck", !alikeDecks(got.Deck, want.Deck), got.Deck, want.Deck)
	add("T", got.T != want.T, got.T, want.T)
	add("Frames", got.Frames != want.Frames, got.Frames, want.Frames)
	add("PsgT", got.PsgT != want.PsgT, got.PsgT, want.PsgT)
	add("Saved", got.Saved != want.Saved, got.Saved, want.Saved)
	add("Events", !slices.Equal(got.Events, want.Events), got.Events, want.Events)
	return text
}

// checkMachine wants a right machine with OK, and with another code what want is.
func checkMachine(t *testing.T, how string, got impl.Machine, code int, want impl.Machine, wantCode int) {
	t.Helper()
	if code != wantCode || !alikeMachines(got, want) {
		t.Fatalf("%s: code %d, not %d%s", how, code, wantCode, partsApart(got, want))
	}
	if code == impl.OK && !impl.MachineOK(got) {
		t.Fatalf("%s: the machine is not right: %s", how, short(got))
	}
}

// sameEvents are n alike ones.
func sameEvents(n int, e impl.Event) []impl.Event { return slices.Repeat([]impl.Event{e}, n) }

func (l *lot) someDeck() impl.Deck {
	pulses := make([]int, l.below(60))
	for i := range pulses {
		pulses[i] = 1 + l.below([]int{3, 40, 1000}[l.below(3)])
	}
	d := deckOf(pulses, l.below(len(pulses)+1), 0, l.below(2) == 0, false)
	if d.Index < len(pulses) {
		d.Left, d.Plays = 1+l.below(pulses[d.Index]), l.below(3) > 0
	}
	return d
}

// someT is often one at an end of something.
func (l *lot) someT() int {
	switch l.below(4) {
	case 0:
		return l.below(12)
	case 1:
		return 120 + l.below(270)
	case 2:
		return lastT - l.below(30)
	}
	return l.below(640)
}

func (l *lot) someEvents() []impl.Event {
	var list []impl.Event
	t := l.below(200)
	for range l.below(12) {
		list = append(list, impl.Event{T: t, Kind: 1 + l.below(5), Value: l.someByte()})
		t += l.below(50)
	}
	return list
}

func (l *lot) someSaved() string {
	switch l.below(4) {
	case 0:
		return ""
	case 1:
		return longText(1 + l.below(mostSaved))
	}
	return snapWritten(l.someSnap())
}

func (l *lot) someMachine() impl.Machine {
	s := l.someSnap()
	frames := l.below(lastFrame + 1)
	if l.below(5) == 0 {
		frames = lastFrame - l.below(4)
	}
	return impl.Machine{
		Cpu: s.Cpu, Memory: s.Memory, Ports: s.Ports, Psg: l.somePsg(), Deck: l.someDeck(),
		T: l.someT(), Frames: frames, PsgT: l.below(16), Saved: l.someSaved(), Events: l.someEvents(),
	}
}

// rightMachines are of all kinds: each part as it may be, each number at its ends and beside them.
func rightMachines() []impl.Machine {
	list := []impl.Machine{newMachine(longText(64)), plainMachine()}
	with := func(change func(m *impl.Machine)) {
		for _, from := range []impl.Machine{newMachine(longText(64)), plainMachine()} {
			m := copyMachine(from)
			change(&m)
			list = append(list, m)
		}
	}
	for _, v := range []int{0, 1, 7, 8, 127, 128, 638, lastT} {
		with(func(m *impl.Machine) { m.T = v })
	}
	for _, v := range []int{0, 1, 999999, lastFrame} {
		with(func(m *impl.Machine) { m.Frames = v })
	}
	for v := range 16 {
		with(func(m *impl.Machine) { m.PsgT = v })
	}
	for _, n := range []int{0, 1, 14, 15, 447, 999, mostSaved} {
		with(func(m *impl.Machine) { m.Saved = longText(n) })
	}
	for _, n := range []int{0, 1, 2, 999, mostEvents} {
		for _, at := range []int{0, 1, 300, 639, 640, 738, 739} {
			with(func(m *impl.Machine) { m.Events = sameEvents(n, impl.Event{T: at, Kind: 1, Value: 0}) })
		}
	}
	for kind := 1; kind <= 5; kind++ {
		for _, v := range []int{0, 1, 254, 255} {
			with(func(m *impl.Machine) { m.Events = []impl.Event{{T: 3, Kind: kind, Value: v}} })
		}
	}
	with(func(m *impl.Machine) { m.Events = []impl.Event{{T: 0, Kind: 1}, {T: 739, Kind: 5, Value: 255}} })
	with(func(m *impl.Machine) {
		m.Events = append(m.Events[:0:0], impl.Event{T: 700, Kind: 2}, impl.Event{T: 700, Kind: 1})
	})
	for _, d := range rightDecks() {
		m := plainMachine()
		m.Deck = d
		list = append(list, m)
	}
	for _, s := range rightSnaps() {
		m := plainMachine()
		m.Cpu, m.Memory, m.Ports = s.Cpu, s.Memory, s.Ports
		list = append(list, m)
	}
	for _, p := range []impl.Psg{{Shift: 1}, fullPsg(), unlikePsg()} {
		with(func(m *impl.Machine) { m.Psg = p })
	}
	l := lot(1401)
	for range 60 {
		list = append(list, l.someMachine())
	}
	return list
}

// farNumbers lie beyond a range by one, by its length, and at the ends of int.
func farNumbers(least, most int) []int {
	return []int{math.MinInt, math.MinInt + 1, -1 << 32, least - 256, least - 2, least - 1, most + 1, most + 2, most + 256, 1<<32 + least, math.MaxInt - 1, math.MaxInt}
}

func wrongNumbers(add func(name string, change func(m *impl.Machine))) {
	for _, v := range farNumbers(0, lastT) {
		add("T", func(m *impl.Machine) { m.T = v })
	}
	for _, v := range farNumbers(0, lastFrame) {
		add("Frames", func(m *impl.Machine) { m.Frames = v })
	}
	for _, v := range farNumbers(0, 15) {
		add("PsgT", func(m *impl.Machine) { m.PsgT = v })
	}
	for _, n := range []int{mostSaved + 1, mostSaved + 2, 2 * mostSaved, impl.MaxText, impl.MaxText + 1} {
		add("Saved", func(m *impl.Machine) { m.Saved = longText(n) })
	}
}

// wrongEvents are lists with one fault each, in each place.
func wrongEvents(add func(name string, change func(m *impl.Machine))) {
	one := func(name string, at int, e impl.Event) {
		add(name, func(m *impl.Machine) {
			m.Events = sameEvents(3, impl.Event{T: 5, Kind: 2, Value: 7})
			m.Events[at] = e
		})
		add("a lone "+name, func(m *impl.Machine) { m.Events = []impl.Event{e} })
	}
	for at := range 3 {
		for _, v := range farNumbers(0, 739) {
			one("event's T", at, impl.Event{T: v, Kind: 2, Value: 7})
		}
		for _, v := range farNumbers(1, 5) {
			one("event's kind", at, impl.Event{T: 5, Kind: v, Value: 7})
		}
		for _, v := range farNumbers(0, 255) {
			one("event's byte", at, impl.Event{T: 5, Kind: 2, Value: v})
		}
	}
	for _, n := range []int{mostEvents + 1, mostEvents + 2, 2 * mostEvents, impl.MaxList, impl.MaxList + 1} {
		add("list of events", func(m *impl.Machine) { m.Events = sameEvents(n, impl.Event{T: 5, Kind: 2, Value: 7}) })
	}
	for _, n := range []int{2, 3, 10, mostEvents} {
		for _, at := range []int{1, n / 2, n - 1} {
			for _, by := range []int{1, 2, 300} {
				add("event whose T falls", func(m *impl.Machine) {
					m.Events = sameEvents(n, impl.Event{T: 300, Kind: 2, Value: 7})
					for i := range at {
						m.Events[i].T += by
					}
				})
			}
		}
	}
	add("event whose T falls back to 0", func(m *impl.Machine) { m.Events = []impl.Event{{T: 739, Kind: 1}, {Kind: 1}} })
	add("event that falls and rises", func(m *impl.Machine) { m.Events = []impl.Event{{T: 8, Kind: 1}, {T: 7, Kind: 1}, {T: 9, Kind: 1}} })
}

// wrongMachines have one fault each.
func wrongMachines() []namedMachine {
	list := []namedMachine{{"zero", impl.Machine{}}}
	add := func(name string, change func(m *impl.Machine)) {
		m := plainMachine()
		change(&m)
		list = append(list, namedMachine{name, m})
	}
	wrongNumbers(add)
	wrongEvents(add)
	for _, w := range wrongSnaps() {
		add(w.name, func(m *impl.Machine) { m.Cpu, m.Memory, m.Ports = w.s.Cpu, w.s.Memory, w.s.Ports })
	}
	for _, p := range append(psgsBeyond(), impl.Psg{}) {
		add("sound chip", func(m *impl.Machine) { m.Psg = p })
	}
	for _, w := range wrongDecks() {
		add("deck: "+w.name, func(m *impl.Machine) { m.Deck = w.d })
	}
	return list
}

func TestNumbersOfMachines(t *testing.T) {
	got := [16]int{impl.AcKey, impl.AcJoy, impl.AcPlay, impl.AcStop, impl.AcRewind, impl.AcFrames, impl.AcSave, impl.AcLoad, impl.EvBorder, impl.EvBeep, impl.EvPsg, impl.EvIn, impl.EvInt, impl.MaxActs, impl.MaxFrame, impl.PsgEvery}
	if got != [16]int{1, 2, 3, 4, 5, 6, 7, 8, 1, 2, 3, 4, 5, 40, 6, 16} {
		t.Error("the numbers of acts, events and limits are", got)
	}
}

func TestRightMachines(t *testing.T) {
	for i, m := range rightMachines() {
		if !impl.MachineOK(m) {
			t.Fatal("MachineOK is false of", i, short(m))
		}
		if !impl.SameMachine(m, m) || !impl.SameMachine(m, copyMachine(m)) || !impl.SameMachine(copyMachine(m), m) {
			t.Fatal("a machine is not like itself:", i, short(m))
		}
	}
}

func TestEachTAndPsgTIsRight(t *testing.T) {
	m := plainMachine()
	for v := -20; v < 700; v++ {
		m.T = v
		if impl.MachineOK(m) != (v >= 0 && v <= 639) {
			t.Error("MachineOK at T", v)
		}
		n := plainMachine()
		n.PsgT = v
		if impl.MachineOK(n) != (v >= 0 && v <= 15) {
			t.Error("MachineOK at PsgT", v)
		}
	}
}

func TestEachEventIsRight(t *testing.T) {
	m := plainMachine()
	for v := -20; v < 800; v++ {
		m.Events = []impl.Event{{T: v, Kind: 3, Value: 9}}
		if impl.MachineOK(m) != (v >= 0 && v <= 739) {
			t.Error("MachineOK of an event at T", v)
		}
		m.Events = []impl.Event{{T: 300, Kind: v, Value: 9}}
		if impl.MachineOK(m) != (v >= 1 && v <= 5) {
			t.Error("MachineOK of an event of kind", v)
		}
		m.Events = []impl.Event{{T: 300, Kind: 3, Value: v}}
		if impl.MachineOK(m) != (v >= 0 && v <= 255) {
			t.Error("MachineOK of an event of byte", v)
		}
		m.Events = []impl.Event{{T: 300, Kind: 3}, {T: v, Kind: 3}}
		if impl.MachineOK(m) != (v >= 300 && v <= 739) {
			t.Error("MachineOK of an event at", v, "behind one at 300")
		}
	}
}

// wantNothing asks all calls on a machine for one code, with all else zero.
func wantNothing(t *testing.T, name string, m impl.Machine, list []impl.Cycle, port int, a impl.Act, want [5]int) {
	t.Helper()
	if n, code := impl.CyclesTime(m, list); n != 0 || code != want[0] {
		t.Error(name, "CyclesTime is", n, code, "not", want[0])
	}
	if v, code := impl.PortValue(m, port); v != 0 || code != want[1] {
		t.Error(name, "PortValue is", v, code, "not", want[1])
	}
	x, code := impl.StepMachine(m)
	checkMachine(t, name+" StepMachine", x, code, impl.Machine{}, want[2])
	x, code = impl.RunFrame(m)
	checkMachine(t, name+" RunFrame", x, code, impl.Machine{}, want[3])
	x, code = impl.ActDo(m, a)
	checkMachine(t, name+" ActDo", x, code, impl.Machine{}, want[4])
}

func TestCallsOfWrongMachines(t *testing.T) {
	bad := [5]int{impl.ErrBad, impl.ErrBad, impl.ErrBad, impl.ErrBad, impl.ErrBad}
	long := bad
	long[0] = impl.ErrLong
	right := plainMachine()
	for _, w := range wrongMachines() {
		if impl.MachineOK(w.m) {
			t.Error("MachineOK of a wrong", w.name, short(w.m))
		}
		wantNothing(t, w.name, w.m, nil, 0, impl.Act{Kind: impl.AcStop}, bad)
		wantNothing(t, w.name, w.m, []impl.Cycle{{Kind: 1}}, 255, impl.Act{Kind: impl.AcJoy, A: 3}, bad)
		wantNothing(t, w.name, w.m, []impl.Cycle{{}}, 256, impl.Act{}, bad)
		wantNothing(t, w.name, w.m, make([]impl.Cycle, impl.MaxList), -1, impl.Act{Kind: 9}, bad)
		wantNothing(t, w.name, w.m, make([]impl.Cycle, impl.MaxList+1), 0, impl.Act{Kind: impl.AcFrames}, long)
		for _, x := range []impl.Machine{right, w.m, copyMachine(w.m), {}} {
			if impl.SameMachine(w.m, x) || impl.SameMachine(x, w.m) {
				t.Error("a wrong", w.name, "is like one")
			}
		}
	}
}

// What is wrong is so, whatever the number of frames: ErrBad comes ahead of ErrFull.
func TestWrongMachinesThatAreFull(t *testing.T) {
	for _, w := range wrongMachines() {
		if w.m.Frames != 77 {
			continue
		}
		m := w.m
		m.Frames = lastFrame
		x, code := impl.StepMachine(m)
		checkMachine(t, w.name, x, code, impl.Machine{}, impl.ErrBad)
		x, code = impl.RunFrame(m)
		checkMachine(t, w.name, x, code, impl.Machine{}, impl.ErrBad)
		x, code = impl.ActDo(m, impl.Act{Kind: impl.AcFrames, A: 1})
		checkMachine(t, w.name, x, code, impl.Machine{}, impl.ErrBad)
	}
}

func checkNewMachine(t *testing.T, rom string, list []impl.Block) {
	t.Helper()
	want := newMachine(rom)
	want.Deck = impl.Deck{Pulses: tapePulsesWritten(list...)}
	if len(list) > 0 {
		want.Deck.Left = 48
	}
	m, code := impl.NewMachine(rom, list)
	checkMachine(t, "NewMachine", m, code, want, impl.OK)
	if m.T != 0 || m.Frames != 0 || m.PsgT != 0 || m.Saved != "" || len(m.Events) != 0 {
		t.Error("NewMachine is at", m.T, m.Frames, m.PsgT, m.Saved, m.Events)
	}
	if m.Cpu != (impl.Cpu{Sp: 255}) || m.Memory.Page != 0 || m.Memory.Screen != 1 || m.Memory.Locked || m.Ports.Border != 7 || m.Ports.Joy != 0 || m.Ports.Keys != [8]int{31, 31, 31, 31, 31, 31, 31, 31} {
		t.Error("the parts of NewMachine are", m.Cpu, m.Ports, m.Memory.Page, m.Memory.Screen, m.Memory.Locked)
	}
	x, codes, code := impl.ActsRun(rom, list, nil)
	checkMachine(t, "ActsRun of no act", x, code, want, impl.OK)
	if len(codes) != 0 {
		t.Error("ActsRun of no act has the codes", codes)
	}
}

// checkNoMachine asks both calls that begin with a new one.
func checkNoMachine(t *testing.T, rom string, list []impl.Block, want int) {
	t.Helper()
	how := fmt.Sprint("a rom of ", len(rom), ", ", len(list), " blocks")
	m, code := impl.NewMachine(rom, list)
	checkMachine(t, "NewMachine of "+how, m, code, impl.Machine{}, want)
	for _, acts := range [][]impl.Act{nil, {{Kind: impl.AcStop}}, {{}}, make([]impl.Act, 41), make([]impl.Act, impl.MaxList)} {
		m, codes, code := impl.ActsRun(rom, list, acts)
		checkMachine(t, "ActsRun of "+how, m, code, impl.Machine{}, want)
		if len(codes) != 0 {
			t.Error("ActsRun of", how, "has the codes", codes)
		}
	}
}

func TestNewMachine(t *testing.T) {
	for _, rom := range []string{longText(64), times(64, "\x00"), times(64, "\xff"), longText(300)[200:264]} {
		for n := range impl.MaxBlocks + 1 {
			checkNewMachine(t, rom, tapeOf(n))
		}
		checkNewMachine(t, rom, []impl.Block{})
		checkNewMachine(t, rom, []impl.Block{{Flag: 255}})
		checkNewMachine(t, rom, []impl.Block{{}})
		checkNewMachine(t, rom, []impl.Block{blockOf(0, 40), blockOf(255, 40), blockOf(0, 40), blockOf(127, 40), blockOf(128, 40), blockOf(0, 40)})
	}
}

func TestNewMachineOfOtherRoms(t *testing.T) {
	for _, n := range []int{0, 1, 32, 62, 63, 65, 66, 128, 4096, impl.MaxText - 1, impl.MaxText} {
		for _, list := range [][]impl.Block{nil, tapeOf(1), tapeOf(6), tapeOf(7), {{Flag: 256}}, make([]impl.Block, impl.MaxList)} {
			checkNoMachine(t, longText(n), list, impl.ErrSize)
		}
	}
	for _, n := range []int{impl.MaxText + 1, impl.MaxText + 64, 3 * impl.MaxText} {
		for _, list := range [][]impl.Block{nil, tapeOf(1), tapeOf(7), {{Flag: 256}}, make([]impl.Block, impl.MaxList), make([]impl.Block, impl.MaxList+1)} {
			checkNoMachine(t, longText(n), list, impl.ErrLong)
		}
	}
}

func TestNewMachineOfOtherLists(t *testing.T) {
	rom := longText(64)
	for _, n := range []int{7, 8, 12, 40, impl.MaxList - 1, impl.MaxList} {
		checkNoMachine(t, rom, make([]impl.Block, n), impl.ErrBad)
	}
	for _, n := range []int{impl.MaxList + 1, 2 * impl.MaxList} {
		for _, rom := range []string{"", longText(63), rom, longText(65), longText(impl.MaxText), longText(impl.MaxText + 1)} {
			checkNoMachine(t, rom, make([]impl.Block, n), impl.ErrLong)
		}
	}
	for n := 1; n <= 8; n++ {
		for at := range n {
			for _, wrong := range []impl.Block{{Flag: -1}, {Flag: 256}, blockOf(3, 41), blockOf(3, impl.MaxText+1)} {
				list := tapeOf(n)
				list[at] = wrong
				checkNoMachine(t, rom, list, impl.ErrBad)
				checkNoMachine(t, rom[:63], list, impl.ErrSize)
			}
		}
	}
	for _, wrong := range wrongBlocks() {
		checkNoMachine(t, rom, []impl.Block{{}, wrong}, impl.ErrBad)
	}
}

// What long lists of acts are is asked ahead of all that a new machine asks.
func TestLongListsOfActsComeFirst(t *testing.T) {
	for _, n := range []int{impl.MaxList + 1, 3 * impl.MaxList} {
		for _, rom := range []string{"", longText(64), longText(65), longText(impl.MaxText + 1)} {
			for _, list := range [][]impl.Block{nil, {{Flag: 256}}, tapeOf(7), make([]impl.Block, impl.MaxList+1)} {
				m, codes, code := impl.ActsRun(rom, list, make([]impl.Act, n))
				checkMachine(t, "ActsRun", m, code, impl.Machine{}, impl.ErrLong)
				if len(codes) != 0 {
					t.Error("ActsRun has the codes", codes)
				}
			}
		}
	}
}
