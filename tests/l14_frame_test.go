package tests

import (
	"fmt"
	"maps"
	"slices"
	"testing"

	"loop.example/g00644/impl"
)

// programs are ROMs that do each operation, that halt, write to each kind of port and read from each, with interrupts and without.
func programs() map[string]string {
	return map[string]string{
		"noughts":                     times(64, "\x00"),
		"halted without interrupts":   assembled("halt"),
		"halted with interrupts":      assembled("ei", "halt", "inc 0", "jp 7 1", "@56", "ei", "ret 7"),
		"counts in the border":        assembled("ei", "halt", "inc 0", "ld 7 0", "out 0", "jp 7 0", "@56", "ldn 4 64", "inc 6", "ei", "ret 7"),
		"an interrupt that stays off": assembled("ei", "inc 0", "jp 7 1", "@56", "inc 1", "ret 7"),
		"di ahead of the window":      assembled("ei", "di", "inc 0", "jp 7 0", "@56", "inc 1", "ret 7"),
		"stripes":                     assembled("inc 7", "out 0", "jp 7 0"),
		"Beep":                        assembled("ldn 0 16", "alu 5 0", "out 0", "jp 7 2"),
		"Mic":                         assembled("ldn 0 8", "alu 5 0", "out 0", "jp 7 2"),
		"sound":                       assembled("inc 0", "ld 7 0", "out 7", "turn 0 7", "out 3", "in 7", "jp 7 0"),
		"pages":                       assembled("inc 0", "ld 7 0", "alun 4 31", "out 5", "sta 200", "jp 7 0"),
		"pages and locks":             assembled("inc 0", "ld 7 0", "out 5", "sta 200", "jp 7 0"),
		"listens":                     assembled("ldn 7 255", "in 0", "alun 4 64", "turn 5 7", "turn 5 7", "turn 5 7", "out 0", "jp 7 0"),
		"reads keys and Joy":          assembled("ldn 7 0", "in 254", "sta 130", "in 1", "sta 131", "jp 7 0"),
		"reads the screen's bus":      assembled("in 129", "inc 4", "ld 6 7", "jp 7 0"),
		"writes the screen":           assembled("ldn 4 64", "inc 6", "inc 4", "jp 7 2"),
		"copies":                      assembled("ldn 4 64", "ldn 2 130", "ldn 0 40", "ldi", "jp 5 6", "jp 7 0"),
		"calls":                       assembled("call 7 10", "push 7", "pop 0", "jp 7 0", "@10", "daa", "alun 0 19", "turn 2 7", "bit 3 7", "ret 7"),
		"runs in the screen":          assembled("jp 7 64"),
		"a wrong one":                 "\xb8\xff\xc0" + assembled("jp 7 0")[:61],
	}
}

// startsOf are machines of a ROM: a new one, one whose tape plays, and one that is late in a late frame.
func startsOf(rom string) []namedMachine {
	fresh := newMachine(rom)
	playing := newMachine(rom)
	playing.Deck = deckOf(tapePulsesWritten(tapeOf(4)...), 0, 48, false, true)
	playing.Psg, playing.PsgT = fullPsg(), 15
	late := newMachine(rom)
	late.T, late.Frames, late.PsgT, late.Events = 500, 999990, 3, somePlainEvents()
	late.Deck = deckOf([]int{7, 1000, 3}, 1, 900, true, true)
	late.Memory = paged(late.Memory, 3, 3, false)
	late.Cpu.Iff = true
	busy := newMachine(rom)
	busy.T, busy.Memory = 7, paged(mixedMemory(), 1, 1, false)
	busy.Memory.Rom = cellsOf(rom)
	busy.Cpu.Iff, busy.Ports = true, portsOf(pressed{0: {2: true}})
	busy.Psg = unlikePsg()
	return []namedMachine{{"fresh", fresh}, {"playing", playing}, {"late", late}, {"busy", busy}}
}

// namesOfPrograms have always the same order, so that what is drawn by lot stays, too.
func namesOfPrograms() []string {
	return slices.Sorted(maps.Keys(programs()))
}

func eachStart(with func(name string, m impl.Machine)) {
	for _, name := range namesOfPrograms() {
		for _, start := range startsOf(programs()[name]) {
			with(name+", "+start.name, start.m)
		}
	}
}

func TestRunFrameOfEachProgram(t *testing.T) {
	eachStart(func(name string, m impl.Machine) {
		for range 12 {
			x := checkFrame(t, name, m)
			if m.Frames < lastFrame && (x.Frames != m.Frames+1 || x.T > 99) {
				t.Fatal(name, "is at", x.Frames, x.T)
			}
			m = x
		}
	})
}

func TestStepMachineOfEachProgram(t *testing.T) {
	eachStart(func(name string, m impl.Machine) {
		for range 500 {
			m = checkLater(t, name, m)
		}
	})
}

// A frame is its steps, but for the events that it begins without and keeps at its end.
func TestRunFrameIsItsSteps(t *testing.T) {
	eachStart(func(name string, m impl.Machine) {
		for range 6 {
			if m.Frames == lastFrame {
				return
			}
			x, code := impl.RunFrame(m)
			y := copyMachine(m)
			y.Events = nil
			for y.Frames == m.Frames {
				y, _ = impl.StepMachine(y)
			}
			y.Events = x.Events
			checkMachine(t, name, x, code, y, impl.OK)
			m = x
		}
	})
}

func TestRunFrameOfMixedMachines(t *testing.T) {
	l := lot(1430)
	for range 250 {
		m := l.someMachine()
		for range 3 {
			m = checkFrame(t, "a mixed one", m)
		}
	}
}

func TestRunFrameFromEachT(t *testing.T) {
	for at := range 640 {
		m := newMachine(programs()["stripes"])
		m.T = at
		checkFrame(t, "stripes", m)
	}
}

// By hand: 640 T are 160 nops where none of them waits, as none stands in memory that is shared, and 40 ticks.
func TestRunFrameOfNop(t *testing.T) {
	m := newMachine(times(64, "\x00"))
	m.Memory.Page, m.Cpu.Pc = 2, 128
	want := copyMachine(m)
	want.Cpu.Pc, want.Frames, want.Psg = 32, 1, benchAfter(m.Psg, 40)
	checkMachine(t, "a frame of nop", checkFrame(t, "nop", m), impl.OK, want, impl.OK)
	halted := newMachine(assembled("halt"))
	x := checkFrame(t, "halt", halted)
	want = copyMachine(halted)
	want.Cpu.Halt, want.Cpu.Pc, want.Frames = true, 1, 1
	want.Psg = benchAfter(halted.Psg, 40)
	checkMachine(t, "a frame of halt", x, impl.OK, want, impl.OK)
}

type overRow struct {
	name       string
	from       int
	line       string
	a          int
	wantT      int
	wantEvents []impl.Event
}

// What goes over the frame's end is the next frame's T; what is noted there is noted with the T that it had.
func TestRunFrameGoesOver(t *testing.T) {
	for _, r := range []overRow{
		{"at the end", 636, "nop", 0, 0, nil},
		{"by one", 637, "nop", 0, 1, nil},
		{"by three", 639, "nop", 0, 3, nil},
		{"an out at the end", 629, "out 0", 1, 0, []impl.Event{event(640, 1, 1)}},
		{"an out by two", 631, "out 0", 16, 2, []impl.Event{event(642, 1, 0), event(642, 2, 1)}},
		{"an out by ten", 639, "out 3", 200, 10, []impl.Event{event(650, 3, 200)}},
		{"an out that is there", 628, "out 0", 1, 3, []impl.Event{event(639, 1, 1)}},
		{"an in by ten", 639, "in 1", 0, 10, []impl.Event{event(639, 4, 0)}},
		{"a halt by three", 639, "halt", 0, 3, nil},
	} {
		m := newMachine(assembled(r.line, "nop"))
		m.T, m.Cpu.Regs[7], m.Events = r.from, r.a, somePlainEvents()
		x := checkFrame(t, r.name, m)
		if x.T != r.wantT || x.Frames != 1 || fmt.Sprint(x.Events) != fmt.Sprint(r.wantEvents) {
			t.Error(r.name, "T", x.T, "Frames", x.Frames, "events", x.Events, "not", r.wantT, r.wantEvents)
		}
		y := checkLater(t, r.name, m)
		if len(y.Events) != 0 && y.Frames == 1 {
			t.Error(r.name, "a step over the end keeps the events", y.Events)
		}
	}
}

// The tape and the sound chip go on by all T of the steps, and do not begin anew with a frame.
func TestFramesGoOnWithoutAGap(t *testing.T) {
	m := newMachine(programs()["stripes"])
	m.Deck = deckOf(mixedPulses(3000), 0, 1, false, true)
	for frames := 1; frames <= 20; frames++ {
		m = checkFrame(t, "stripes", m)
		all := 640*frames + m.T
		want, _ := runWritten(deckOf(mixedPulses(3000), 0, 1, false, true), all)
		if !alikeDecks(m.Deck, want) {
			t.Fatal("behind", all, "T the tape is at", m.Deck.Index, m.Deck.Left, "not", want.Index, want.Left)
		}
		if m.PsgT != all%16 || m.Psg != benchAfter(impl.NewPsg(), all/16) {
			t.Fatal("behind", all, "T the sound chip is at", m.PsgT, m.Psg)
		}
	}
}

// An event of the next frame takes the place of all of the last one only if one of a later T stands ahead of it.
func TestEventsOfTheLastFrame(t *testing.T) {
	for _, last := range []int{0, 20, 21, 22, 300, 739} {
		m := newMachine(assembled("out 0"))
		m.T, m.Cpu.Regs[7] = 10, 16
		m.Events = []impl.Event{event(0, 5, 1), event(last, 3, 9)}
		x := checkLater(t, "events", m)
		want := []impl.Event{event(21, 1, 0), event(21, 2, 1)}
		if last <= 21 {
			want = append(m.Events, want...)
		}
		if fmt.Sprint(x.Events) != fmt.Sprint(want) {
			t.Error("behind one at", last, "the events are", x.Events, "not", want)
		}
	}
}

// There are never more than 1000, and those that stand there stay.
func TestNoMoreEventsThanThousand(t *testing.T) {
	for _, n := range []int{0, 1, 997, 998, 999, mostEvents} {
		for _, last := range []int{0, 21, 22} {
			m := newMachine(assembled("out 0"))
			m.T, m.Cpu.Regs[7] = 10, 16
			m.Events = sameEvents(n, event(last, 3, 9))
			x := checkLater(t, "events", m)
			want := min(n+2, mostEvents)
			if last == 22 && n > 0 {
				want = 2
			}
			if len(x.Events) != want {
				t.Error("behind", n, "events at", last, "there are", len(x.Events), "not", want)
			}
			if n == 999 && last == 21 && x.Events[999] != event(21, 1, 0) {
				t.Error("the last one is", x.Events[999])
			}
		}
	}
	m := newMachine(assembled("in 1"))
	m.Events = sameEvents(mostEvents, event(0, 2, 1))
	checkLater(t, "an in", m)
	m.Cpu.Iff = true
	checkLater(t, "an interrupt", m)
	m.T = 5
	checkLater(t, "an interrupt at 5", m)
	m.T = 639
	if x := checkLater(t, "over the end", m); len(x.Events) != 0 {
		t.Error("over the end there are", len(x.Events), "events")
	}
}

func TestRunFrameIsWithoutEventsFirst(t *testing.T) {
	for _, n := range []int{1, 999, mostEvents} {
		m := newMachine(programs()["stripes"])
		m.Events = sameEvents(n, event(0, 2, 1))
		x := checkFrame(t, "stripes", m)
		m.Events = nil
		y := checkFrame(t, "stripes", m)
		if fmt.Sprint(x.Events) != fmt.Sprint(y.Events) || len(x.Events) == 0 {
			t.Error("the events of a frame hang on those ahead of it:", x.Events)
		}
	}
}
