package tests

import (
	"fmt"
	"maps"
	"slices"
	"strconv"
	"strings"
	"testing"

	"loop.example/g00644/impl"
)

// A mixedRom begins with ei, so that interrupts are let at least once, and has code of all kinds.
func (l *lot) mixedRom() string {
	cells := l.someCode(64)
	for i := range cells {
		// Wrong ones take a quarter of all numbers, and di would soon end all interrupts.
		if cells[i] >= 184 || cells[i]>>3 == 21 {
			cells[i] = []int{160, 56, 144, 136, 15, 103, 176, 119}[l.below(8)]
		}
	}
	cells[0] = 160
	return romOf(impl.Snap{Memory: impl.Memory{Rom: cells}})
}

func manyRoms() map[string]string {
	roms := programs()
	roms["the plain one"] = impl.PlainRom()
	roms["all numbers"] = longText(64)
	roms["all 255"] = times(64, "\xff")
	l := lot(1801)
	for i := range 25 {
		roms[fmt.Sprint("mixed ", i)] = l.mixedRom()
	}
	return roms
}

// checkWholeFrame runs a frame at once and by its steps: both take the same time, each step takes its own, and the interrupts are taken in their window alone, and there whenever one is let.
func checkWholeFrame(t *testing.T, how string, m impl.Machine) impl.Machine {
	t.Helper()
	whole := checkFrameTime(t, how, m)
	time, taken := 0, 0
	x := m
	for x.Frames == m.Frames {
		let := x.T < 8 && x.Cpu.Iff && !x.Cpu.Ei
		y := checkStepTime(t, how, x)
		time += y.T - x.T + 640*(y.Frames-x.Frames)
		if let {
			taken++
		}
		if let != isTaken(x, y) {
			t.Fatal(how, "an interrupt at", x.T, "with", fmt.Sprintf("%+v", x.Cpu), "is let:", let)
		}
		x = y
	}
	if time != 640-m.T+whole.T || x.T != whole.T || x.Cpu != whole.Cpu || taken != checkToldInterrupts(t, how, whole.Events) {
		t.Fatal(how, "a frame from", m.T, "to", whole.T, "takes", time, "with", taken, "interrupts")
	}
	return whole
}

// isTaken tells by what a step came to whether it was an interrupt: Iff goes off, and where it came from is pushed.
func isTaken(x, y impl.Machine) bool {
	if !x.Cpu.Iff || y.Cpu.Iff || y.Cpu.Pc != impl.IntAt {
		return false
	}
	next := decodedPair(*cellAt(x.Memory, x.Cpu.Pc), *cellAt(x.Memory, (x.Cpu.Pc+1)%256))
	return x.Cpu.Halt || next.Op != impl.OpDi
}

// checkSavedGoesOn saves a machine, writes its snapshot and reads it again into another one: both go on alike. The act that saves writes the same text.
func checkSavedGoesOn(t *testing.T, how string, m impl.Machine) {
	t.Helper()
	m = alone(m)
	s := impl.Snap{Cpu: m.Cpu, Memory: m.Memory, Ports: m.Ports}
	text, code := impl.SnapText(s)
	back, codeBack := impl.ReadSnap(text, romOf(s))
	if code != impl.OK || codeBack != impl.OK || !impl.SameSnap(s, back) {
		t.Fatal(how, "a snapshot is written and read with", code, codeBack)
	}
	if again, _ := impl.SnapText(back); again != text {
		t.Fatal(how, "a snapshot that was read is written another way")
	}
	saved, code := impl.ActDo(m, impl.Act{Kind: impl.AcSave})
	if code != impl.OK || saved.Saved != text {
		t.Fatal(how, "AcSave is", code, "and what it saves another text")
	}
	other := copyMachine(saved)
	other.Cpu, other.Memory, other.Ports = back.Cpu, back.Memory, back.Ports
	for range 3 {
		saved, code = impl.RunFrame(saved)
		other, codeBack = impl.RunFrame(other)
		checkMachine(t, how+", gone on", other, codeBack, saved, code)
	}
}

// checkWhole does acts on a new machine, frame by frame, and asks all along; in the end it is where ActsRun is.
func checkWhole(t *testing.T, how, rom string, tape []impl.Block, acts []impl.Act) impl.Machine {
	t.Helper()
	m, code := impl.NewMachine(rom, tape)
	if code != impl.OK {
		t.Fatal(how, "NewMachine is", code)
	}
	var codes []int
	frames := 0
	for i, a := range acts {
		if a.Kind == impl.AcFrames {
			for range a.A {
				m = checkWholeFrame(t, how, m)
			}
			frames += a.A
			code = impl.OK
		} else {
			m, code = impl.ActDo(m, a)
		}
		codes = append(codes, code)
		if !impl.MachineOK(m) || m.Frames != frames || m.T >= 100 {
			t.Fatal(how, "behind act", i, a, "the machine is at", m.Frames, m.T)
		}
		if i%8 == 3 {
			checkSavedGoesOn(t, how, m)
		}
	}
	all, allCodes, code := impl.ActsRun(rom, tape, acts)
	checkMachine(t, how+", all acts at once", all, code, m, impl.OK)
	if !slices.Equal(allCodes, codes) {
		t.Fatal(how, "the codes are", allCodes, "not", codes)
	}
	return m
}

func TestPromise18(t *testing.T) {
	l := lot(1802)
	roms := manyRoms()
	for _, name := range slices.Sorted(maps.Keys(roms)) {
		for _, blocks := range []int{0, 1, 1 + l.below(6)} {
			acts := l.someActs(1 + l.below(impl.MaxActs))
			checkWhole(t, fmt.Sprint(name, ", a tape of ", blocks), roms[name], l.someTape(blocks), acts)
		}
	}
}

// Over many frames: all of them together take their time, as the tape tells that is run beside them.
func TestPromise18OverManyFrames(t *testing.T) {
	roms := manyRoms()
	for _, name := range slices.Sorted(maps.Keys(roms)) {
		m, _ := impl.NewMachine(roms[name], tapeOf(6))
		m, _ = impl.ActDo(m, impl.Act{Kind: impl.AcPlay})
		tape := m.Deck
		taken := 0
		for n := 1; n <= 150; n++ {
			was := m.T
			m = checkFrameTime(t, name, m)
			tape, _, _ = impl.RunDeck(tape, 640-was+m.T)
			taken += checkToldInterrupts(t, name, m.Events)
			if m.Frames != n || !impl.SameDeck(m.Deck, tape) {
				t.Fatal(name, "in frame", m.Frames, "the tape is at", m.Deck.Index, m.Deck.Left, "not", tape.Index, tape.Left)
			}
			if n%50 == 0 {
				checkSavedGoesOn(t, name, m)
			}
		}
		if least, counts := map[string]int{"the plain one": 149, "counts in the border": 149, "halted with interrupts": 149}[name]; counts && taken != least {
			t.Error(name, "takes", taken, "interrupts in 150 frames")
		}
	}
}

// Whatever state a machine is in, not only what a new one comes to.
func TestPromise18OfMixedMachines(t *testing.T) {
	l := lot(1803)
	for range 60 {
		m := l.someMachine()
		m.Frames = l.below(1000)
		for range 4 {
			m = checkWholeFrame(t, "a mixed one", m)
		}
		checkSavedGoesOn(t, "a mixed one", m)
	}
}

// numbersIn are those of a line of words and numbers, in turn.
func numbersIn(t *testing.T, s string, words ...string) []int {
	t.Helper()
	parts := strings.Split(s, " ")
	var list []int
	for i, word := range words {
		if 2*i+1 >= len(parts) || parts[2*i] != word {
			t.Fatal("a line is", s)
		}
		v, err := strconv.Atoi(parts[2*i+1])
		if err != nil {
			t.Fatal("a line is", s)
		}
		list = append(list, v)
	}
	return list
}

// What a console tells of its frames, one by one: where each of them ends, and at most one interrupt, in its window.
func TestPromise18ToldByAConsole(t *testing.T) {
	l := lot(1804)
	for range 60 {
		ahead := codeLines([]string{"inc 7", "out 0", "out 3", "in 0", "ldn 7 9", "out 5", "push 7", "turn 0 6", "ei", "di", "halt", "ldi"}[l.below(12)], "inc 0", "jp 7 65")
		lines := append(slices.Clone(ahead), "tape 0200ffff", "play")
		for len(lines) < 55 {
			lines = append(lines, "frames 1", "machine", "events")
		}
		said := saidTo(t, lines)[len(ahead)+2:]
		for frame := 2; len(said) > 0; frame++ {
			if told := numbersIn(t, said[2], "frame", "t", "border"); said[0] != "ok" || told[0] != frame || told[1] > 99 {
				t.Fatal("frame", frame, "is told by", said[:7])
			}
			n := numbersIn(t, said[5], "level", "events")[1]
			taken := 0
			for _, s := range said[6 : 6+n] {
				parts := strings.Split(s, " ")
				if at, err := strconv.Atoi(parts[0]); err != nil || at > 739 || parts[1] == "int" && at > 7 {
					t.Fatal("an event is told by", s)
				}
				if parts[1] == "int" {
					taken++
				}
			}
			if taken > 1 || said[6+n] != fmt.Sprint("events ", n) {
				t.Fatal("events are told by", said[6:7+n])
			}
			said = said[7+n:]
		}
	}
}

// To a console whose keys are up it is all one whether it loads what it has just saved, wherever it does.
func TestPromise18SavedAndLoadedByAConsole(t *testing.T) {
	l := lot(1805)
	for i := range 120 {
		var lines []string
		if i%2 == 0 {
			lines = codeLines("in 0", "sta 200", "inc 7", "out 0", "out 3", "out 5", "jp 7 65")
		}
		for len(lines) < 50 {
			if s := l.someLine(); !strings.HasPrefix(s, "key") && !strings.HasPrefix(s, "joy") {
				lines = append(lines, s)
			}
		}
		at := l.below(len(lines) + 1)
		saved := slices.Insert(slices.Clone(lines), at, "save")
		loaded := slices.Insert(slices.Clone(lines), at, "save", "load")
		m, said, _ := impl.RunLines(saved)
		x, saidX, code := impl.RunLines(loaded)
		checkMachine(t, "with a load", x, code, m, impl.OK)
		place := len(saidTo(t, saved[:at+1]))
		if saidX[place] != "ok" || !slices.Equal(slices.Delete(slices.Clone(saidX), place, place+1), said) {
			t.Fatal("with a load at", at, "is said", placeApart(slices.Delete(slices.Clone(saidX), place, place+1), said))
		}
	}
}

// A console does with its lines what ActsRun does with the acts that they are of.
func TestPromise18OfActsAndLines(t *testing.T) {
	l := lot(1806)
	for range 80 {
		acts := l.someActs(l.below(impl.MaxActs + 1))
		var lines, want []string
		for _, a := range acts {
			lines = append(lines, actTextWritten(a))
		}
		m, codes, code := impl.ActsRun(impl.PlainRom(), nil, acts)
		for _, c := range codes {
			want = append(want, verdictWritten(c)...)
		}
		x, said, codeX := impl.RunLines(lines)
		checkMachine(t, "the lines of acts", x, codeX, m, code)
		if !slices.Equal(said, want) {
			t.Fatal("to the lines of acts is said", placeApart(said, want))
		}
	}
}
