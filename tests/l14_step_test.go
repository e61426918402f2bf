package tests

import (
	"fmt"
	"strings"
	"testing"

	"loop.example/g00644/impl"
)

// assembled is a ROM of instructions, one behind the other; "@56" has the next ones stand from 56 on.
func assembled(lines ...string) string {
	rom := make([]byte, 64)
	at := 0
	for _, line := range lines {
		if strings.HasPrefix(line, "@") {
			fmt.Sscanf(line, "@%d", &at)
			continue
		}
		x, _ := impl.ReadInstr(line)
		bytes, code := impl.Encode(x)
		if code != impl.OK {
			panic(line)
		}
		for _, v := range bytes {
			rom[at] = byte(v)
			at++
		}
	}
	return string(rom)
}

// notedWritten is the list behind which one more is noted.
func notedWritten(list []impl.Event, e impl.Event) []impl.Event {
	switch {
	case len(list) > 0 && list[len(list)-1].T > e.T:
		return []impl.Event{e}
	case len(list) == mostEvents:
		return list
	}
	return append(list, e)
}

// sentWritten is what an out to a port comes to, at the T that m is at.
func sentWritten(m *impl.Machine, port, v int) {
	switch kindWritten(port) {
	case 0:
		was := m.Ports
		m.Ports.Border, m.Ports.Mic, m.Ports.Beep = v%8, v/8%2 == 1, v/16%2 == 1
		if was.Border != m.Ports.Border {
			m.Events = notedWritten(m.Events, impl.Event{T: m.T, Kind: 1, Value: v % 8})
		}
		if was.Beep != m.Ports.Beep {
			m.Events = notedWritten(m.Events, impl.Event{T: m.T, Kind: 2, Value: v / 16 % 2})
		}
	case 2:
		m.Memory, _ = impl.PageTo(m.Memory, v)
	case 3:
		m.Psg.Select = v % 8
	case 4:
		m.Psg, _ = impl.WriteReg(m.Psg, v)
		m.Events = notedWritten(m.Events, impl.Event{T: m.T, Kind: 3, Value: v})
	}
}

// stepWritten is the chapter's sentences, one behind the other; its T may lie behind the frame's end.
func stepWritten(m impl.Machine) impl.Machine {
	m = copyMachine(m)
	b := newBench(m.Cpu, m.Memory)
	if m.T < 8 && m.Cpu.Iff && !m.Cpu.Ei {
		m.Events = notedWritten(m.Events, impl.Event{T: m.T, Kind: 5, Value: m.Cpu.Pc})
		b.note(1, b.c.Pc, *cellAt(b.m, b.c.Pc))
		b.push(b.c.Pc)
		b.c.Pc, b.c.Iff, b.c.Halt = 56, false, false
	} else {
		in, next := 0, decodedPair(*cellAt(m.Memory, m.Cpu.Pc), *cellAt(m.Memory, (m.Cpu.Pc+1)%256))
		if !m.Cpu.Halt && next.Op == 17 {
			in = portWritten(m, next.N)
			m.Events = notedWritten(m.Events, impl.Event{T: m.T, Kind: 4, Value: in})
		}
		b.step(in)
	}
	time := timeWritten(m, b.list)
	m.Cpu, m.Memory, m.T = b.c, b.m, m.T+time
	m.Deck, _ = runWritten(m.Deck, time)
	for range time {
		m.PsgT++
		if m.PsgT == 16 {
			m.PsgT, m.Psg = 0, benchAfter(m.Psg, 1)
		}
	}
	for _, c := range b.list {
		if c.Kind == 5 {
			sentWritten(&m, c.Address, c.Value)
		}
	}
	return m
}

// laterWritten is what StepMachine answers.
func laterWritten(m impl.Machine) (impl.Machine, int) {
	if m.Frames == lastFrame {
		return m, impl.ErrFull
	}
	m = stepWritten(m)
	if m.T > lastT {
		m.T, m.Frames, m.Events = m.T-640, m.Frames+1, nil
	}
	return m, impl.OK
}

// frameWritten is what RunFrame answers.
func frameWritten(m impl.Machine) (impl.Machine, int) {
	if m.Frames == lastFrame {
		return m, impl.ErrFull
	}
	m.Events = nil
	for m.T < 640 {
		m = stepWritten(m)
	}
	m.T, m.Frames = m.T-640, m.Frames+1
	return m, impl.OK
}

// checkLater steps a machine, and answers what it came to.
func checkLater(t *testing.T, how string, m impl.Machine) impl.Machine {
	t.Helper()
	want, wantCode := laterWritten(m)
	got, code := impl.StepMachine(m)
	checkMachine(t, fmt.Sprintf("%s: StepMachine at T %d, %+v", how, m.T, m.Cpu), got, code, want, wantCode)
	return got
}

func checkFrame(t *testing.T, how string, m impl.Machine) impl.Machine {
	t.Helper()
	want, wantCode := frameWritten(m)
	got, code := impl.RunFrame(m)
	checkMachine(t, fmt.Sprintf("%s: RunFrame from T %d, %+v", how, m.T, m.Cpu), got, code, want, wantCode)
	return got
}

// A machineRow is a step of a new machine with another start: what is told here of it, and nothing else, is other then.
type machineRow struct {
	name  string
	line  string
	start func(m *impl.Machine)
	then  func(m *impl.Machine)
}

// goneTo is where the processor and the time are behind a step; the sound chip and the tape stand.
func goneTo(pc, at, psgT int, events ...impl.Event) func(m *impl.Machine) {
	return func(m *impl.Machine) { m.Cpu.Pc, m.T, m.PsgT, m.Events = pc, at, psgT, events }
}

func from(at, a int) func(m *impl.Machine) {
	return func(m *impl.Machine) { m.T, m.Cpu.Regs[7] = at, a }
}

func both(list ...func(m *impl.Machine)) func(m *impl.Machine) {
	return func(m *impl.Machine) {
		for _, do := range list {
			do(m)
		}
	}
}

func (r machineRow) check(t *testing.T) {
	t.Helper()
	m := newMachine(assembled(r.line))
	// No period of the sound chip comes round in these rows but where they tell it.
	m.Psg.Regs = [8]int{200, 200, 31, 15, 0, 0, 200, 0}
	r.start(&m)
	want := copyMachine(m)
	r.then(&want)
	got, code := impl.StepMachine(m)
	checkMachine(t, r.name, got, code, want, impl.OK)
}

func border(v int) func(m *impl.Machine) {
	return func(m *impl.Machine) { m.Ports.Border = v }
}

func beep(v bool) func(m *impl.Machine) {
	return func(m *impl.Machine) { m.Ports.Beep = v }
}

func event(at, kind, v int) impl.Event { return impl.Event{T: at, Kind: kind, Value: v} }

func ulaRows() []machineRow {
	mic := func(m *impl.Machine) { m.Ports.Mic = true }
	return []machineRow{
		{"another border", "out 0", from(10, 1), both(goneTo(2, 21, 11, event(21, 1, 1)), border(1))},
		{"the same border", "out 0", from(10, 7), goneTo(2, 21, 11)},
		{"bits above", "out 254", from(10, 224+7), goneTo(2, 21, 11)},
		{"Beep on", "out 0", from(10, 16+7), both(goneTo(2, 21, 11, event(21, 2, 1)), beep(true))},
		{"Beep stays on", "out 0", both(from(10, 16+7), beep(true)), goneTo(2, 21, 11)},
		{"Beep off", "out 0", both(from(10, 7), beep(true)), both(goneTo(2, 21, 11, event(21, 2, 0)), beep(false))},
		{"border and Beep", "out 0", from(10, 16), both(goneTo(2, 21, 11, event(21, 1, 0), event(21, 2, 1)), border(0), beep(true))},
		{"border and Beep off", "out 130", both(from(10, 5), beep(true)), both(goneTo(2, 21, 11, event(21, 1, 5), event(21, 2, 0)), border(5), beep(false))},
		{"Mic alone", "out 0", from(10, 8+7), both(goneTo(2, 21, 11), mic)},
		{"Mic and border", "out 0", from(10, 8+2), both(goneTo(2, 21, 11, event(21, 1, 2)), border(2), mic)},
		{"the screen's port waits", "out 0", from(121, 3), both(goneTo(2, 121+7+6+4, 1, event(138, 1, 3)), border(3), func(m *impl.Machine) { m.PsgT = 1; m.Psg = benchAfter(m.Psg, 1) })},
	}
}

func otherOutRows() []machineRow {
	pageOf := func(page, screen int, locked bool) func(m *impl.Machine) {
		return func(m *impl.Machine) { m.Memory.Page, m.Memory.Screen, m.Memory.Locked = page, screen, locked }
	}
	register := func(n, v int) func(m *impl.Machine) {
		return func(m *impl.Machine) { m.Psg.Regs[n] = v }
	}
	selected := func(n int) func(m *impl.Machine) { return func(m *impl.Machine) { m.Psg.Select = n } }
	return []machineRow{
		{"another Page", "out 5", from(10, 2), both(goneTo(2, 21, 11), pageOf(2, 1, false))},
		{"another Page and Screen", "out 125", from(10, 1+8), both(goneTo(2, 21, 11), pageOf(1, 3, false))},
		{"locked", "out 5", from(10, 3+8+32), both(goneTo(2, 21, 11), pageOf(3, 3, true))},
		{"locked already", "out 5", both(from(10, 2+8), pageOf(1, 1, true)), goneTo(2, 21, 11)},
		{"a register is selected", "out 7", from(10, 4), both(goneTo(2, 21, 11), selected(4))},
		{"the lower three bits alone", "out 15", from(10, 255), both(goneTo(2, 21, 11), selected(7))},
		{"a register is written", "out 3", both(from(10, 77), selected(1)), both(goneTo(2, 21, 11, event(21, 3, 77)), register(1, 77))},
		{"what it does not have is noted, too", "out 3", both(from(10, 255), selected(7)), both(goneTo(2, 21, 11, event(21, 3, 255)), register(7, 3))},
		{"written as it was", "out 3", both(from(10, 15), selected(3)), goneTo(2, 21, 11, event(21, 3, 15))},
		{"no port", "out 129", from(10, 99), goneTo(2, 21, 11)},
		{"no port, either", "out 255", from(10, 99), goneTo(2, 21, 11)},
		{"the Joy's port", "out 1", from(10, 99), goneTo(2, 21, 11)},
		{"an odd port does not wait", "out 129", from(121, 99), both(goneTo(2, 132, 11))},
	}
}

func inRows() []machineRow {
	got := func(a int, letters string) func(m *impl.Machine) {
		return func(m *impl.Machine) { m.Cpu.Regs[7], m.Cpu.F = a, flagsOfLetters(letters) }
	}
	down := func(m *impl.Machine) { m.Ports.Keys[0] = 30 }
	return []machineRow{
		{"keys up", "in 0", from(10, 254), both(goneTo(2, 21, 11, event(10, 4, 191)), got(191, "S53"))},
		{"a key down", "in 0", both(from(10, 254), down), both(goneTo(2, 21, 11, event(10, 4, 190)), got(190, "S53P"))},
		{"another row", "in 0", both(from(10, 253), down), both(goneTo(2, 21, 11, event(10, 4, 191)), got(191, "S53"))},
		{"the tape", "in 254", both(from(10, 255), func(m *impl.Machine) { m.Deck.Level = true }), both(goneTo(2, 21, 11, event(10, 4, 255)), got(255, "S53P"))},
		{"the Joy", "in 1", both(from(10, 0), func(m *impl.Machine) { m.Ports.Joy = 5 }), both(goneTo(2, 21, 11, event(10, 4, 5)), got(5, "P"))},
		{"the sound chip", "in 7", both(from(10, 0), func(m *impl.Machine) { m.Psg.Select = 2 }), both(goneTo(2, 21, 11, event(10, 4, 31)), got(31, "3"))},
		{"nothing is fetched", "in 129", from(10, 0), both(goneTo(2, 21, 11, event(10, 4, 255)), got(255, "S53P"))},
		{"the screen where the in begins", "in 129", both(from(128, 0), func(m *impl.Machine) { m.Memory.Ram[1][0] = 1 }), both(goneTo(2, 139, 11, event(128, 4, 1)), got(1, ""))},
		{"not where it is read", "in 129", both(from(121, 0), func(m *impl.Machine) { m.Memory.Ram[1][0] = 1 }), both(goneTo(2, 132, 11, event(121, 4, 255)), got(255, "S53P"))},
		{"in noted ahead of the wait", "in 0", from(121, 255), both(goneTo(2, 138, 1, event(121, 4, 191)), got(191, "S53"), func(m *impl.Machine) { m.Psg = benchAfter(m.Psg, 1) })},
		{"halted", "in 0", both(from(10, 254), func(m *impl.Machine) { m.Cpu.Halt = true }), goneTo(0, 14, 4)},
	}
}

func interruptRows() []machineRow {
	let := func(m *impl.Machine) { m.Cpu.Iff = true }
	off := func(m *impl.Machine) { m.Cpu.Iff, m.Cpu.Halt, m.Cpu.Sp = false, false, 254 }
	pushed := func(pc int) func(m *impl.Machine) {
		return both(off, func(m *impl.Machine) { m.Memory.Ram[0][62] = pc })
	}
	at := func(pc int) func(m *impl.Machine) { return func(m *impl.Machine) { m.Cpu.Pc = pc } }
	noted := func(m *impl.Machine) { m.Events = somePlainEvents() }
	rows := []machineRow{
		{"halted", "halt", both(from(3, 0), let, at(1), func(m *impl.Machine) { m.Cpu.Halt = true }), both(goneTo(56, 10, 7, event(3, 5, 1)), pushed(1))},
		{"Ei just now", "inc 0", both(from(0, 0), let, func(m *impl.Machine) { m.Cpu.Ei = true }), both(goneTo(1, 4, 4), func(m *impl.Machine) { m.Cpu.Ei, m.Cpu.Regs[0] = false, 1 })},
		{"ei", "ei", both(from(0, 0)), both(goneTo(1, 4, 4), func(m *impl.Machine) { m.Cpu.Iff, m.Cpu.Ei = true, true })},
		{"not let", "nop", from(0, 0), goneTo(1, 4, 4)},
		{"an in that does not come", "in 0", both(from(0, 0), let), both(goneTo(56, 7, 7, event(0, 5, 0)), pushed(0))},
		{"an out that does not come", "out 0", both(from(7, 0), let), both(goneTo(56, 14, 7, event(7, 5, 0)), pushed(0))},
		{"behind events of a later T", "nop", both(from(0, 0), let, noted), both(goneTo(56, 7, 7, event(0, 5, 0)), pushed(0))},
		{"into the ROM", "nop", both(from(2, 0), let, func(m *impl.Machine) { m.Cpu.Sp = 0; m.Memory.Page = 3 }), both(goneTo(56, 9, 7, event(2, 5, 0)), off, func(m *impl.Machine) { m.Cpu.Sp = 255; m.Memory.Ram[3][63] = 0 })},
	}
	for t := range 8 {
		rows = append(rows, machineRow{fmt.Sprint("in the window at ", t), "nop", both(from(t, 0), let, at(201)), both(goneTo(56, t+7, 7, event(t, 5, 201)), pushed(201))})
	}
	for _, t := range []int{8, 9, 127, 631} {
		rows = append(rows, machineRow{fmt.Sprint("behind the window at ", t), "nop", both(from(t, 0), let), goneTo(1, t+4, 4)})
	}
	return rows
}

func endRows() []machineRow {
	let := func(m *impl.Machine) { m.Cpu.Iff = true }
	next := func(m *impl.Machine) { m.Frames++ }
	noted := func(m *impl.Machine) { m.Events = somePlainEvents() }
	return []machineRow{
		{"just ahead of the end", "nop", both(from(635, 0), noted), both(goneTo(1, 639, 4, somePlainEvents()...))},
		{"at the end", "nop", both(from(636, 0), noted), both(goneTo(1, 0, 4), next)},
		{"over the end", "nop", both(from(639, 0), noted), both(goneTo(1, 3, 4), next)},
		{"no interrupt at the end", "nop", both(from(639, 0), let, noted), both(goneTo(1, 3, 4), next)},
		{"an out over the end", "out 0", both(from(632, 1), noted), both(goneTo(2, 3, 11), next, border(1))},
		{"an in over the end", "in 1", both(from(638, 0), noted), both(goneTo(2, 9, 11), next, func(m *impl.Machine) { m.Cpu.F = flagsOfLetters("ZP") })},
		{"an in just ahead of it", "in 1", both(from(628, 0), noted), both(goneTo(2, 639, 11, append(somePlainEvents(), event(628, 4, 0))...), func(m *impl.Machine) { m.Cpu.F = flagsOfLetters("ZP") })},
		{"from the last frame but one", "nop", both(from(637, 0), func(m *impl.Machine) { m.Frames = 999999 }), both(goneTo(1, 1, 4), next)},
		{"within the last frame but one", "nop", both(from(63, 0), func(m *impl.Machine) { m.Frames = 999999 }), goneTo(1, 67, 4)},
	}
}

func TestStepMachineRows(t *testing.T) {
	for _, rows := range [][]machineRow{ulaRows(), otherOutRows(), inRows(), interruptRows(), endRows()} {
		for _, r := range rows {
			r.check(t)
		}
	}
}

func TestStepMachineTicksTheSoundChip(t *testing.T) {
	for psgT := range 16 {
		for _, line := range []string{"nop", "ldn 0 5", "out 129", "ldi"} {
			m := newMachine(assembled(line))
			m.Psg, m.PsgT = counting(unlikePsg()), psgT
			x := checkLater(t, line, m)
			if ticks := (psgT + x.T) / 16; x.PsgT != (psgT+x.T)%16 || x.Psg != benchAfter(m.Psg, ticks) {
				t.Error("of", line, "at PsgT", psgT, "PsgT is", x.PsgT, x.Psg)
			}
		}
	}
}

// What an out writes to the sound chip is written behind the ticks of that step.
func TestStepMachineWritesBehindTheTicks(t *testing.T) {
	m := newMachine(assembled("out 3"))
	m.Psg = unlikePsg()
	m.Psg.Select, m.Psg.Env, m.Psg.EnvCount, m.Psg.Regs[6] = 7, 20, 5, 1
	m.PsgT, m.Cpu.Regs[7], m.T = 15, 6, 20
	x := checkLater(t, "out 3", m)
	if x.Psg.Env != 0 || x.Psg.EnvCount != 0 || x.Psg.Regs[7] != 2 {
		t.Error("behind the write Env, EnvCount and the shape are", x.Psg.Env, x.Psg.EnvCount, x.Psg.Regs[7])
	}
}

func TestStepMachineRunsTheTape(t *testing.T) {
	for _, plays := range []bool{false, true} {
		for left := 1; left <= 48; left++ {
			m := newMachine(assembled("out 129"))
			m.Deck.Left, m.Deck.Plays = left, plays
			x := checkLater(t, "out 129", m)
			switch {
			case !plays && !alikeDecks(x.Deck, m.Deck):
				t.Error("a tape that stands went on to", x.Deck.Index, x.Deck.Left)
			case plays && left > 11 && (x.Deck.Index != 0 || x.Deck.Left != left-11 || x.Deck.Level):
				t.Error("of", left, "T there are left", x.Deck.Index, x.Deck.Left)
			case plays && left <= 11 && (x.Deck.Index != 1 || x.Deck.Left != 48-(11-left) || !x.Deck.Level):
				t.Error("of", left, "T there are left", x.Deck.Index, x.Deck.Left)
			}
		}
	}
}

// The level that an in reads is the one ahead of its time.
func TestStepMachineHearsAheadOfTheTime(t *testing.T) {
	m := newMachine(assembled("in 0"))
	m.Deck.Left, m.Deck.Plays, m.Cpu.Regs[7] = 1, true, 255
	x := checkLater(t, "in 0", m)
	if x.Cpu.Regs[7] != 191 || !x.Deck.Level {
		t.Error("in reads", x.Cpu.Regs[7], "and the level is then", x.Deck.Level)
	}
}

func TestStepMachineOfEachPair(t *testing.T) {
	l := lot(1420)
	for first := range 256 {
		m := l.someMachine()
		m.Frames, m.Cpu.Halt = l.below(1000), false
		for second := range 256 {
			x := m
			x.T = l.someT()
			x.Memory = placed(m.Cpu, m.Memory, first, second)
			checkLater(t, "a pair", x)
		}
	}
}

func TestStepMachineAtEachT(t *testing.T) {
	l := lot(1421)
	for _, r := range sampleInstrs() {
		m := l.someMachine()
		m.Frames, m.Cpu.Halt = l.below(1000), l.below(9) == 0
		m.Memory = placed(m.Cpu, m.Memory, r.bytes...)
		for _, at := range []int{0, 6, 7, 8, 9, 119, 122, 125, 128, 131, 134, 137, 366, 600, 611, 622, 628, 629, 632, 633, 635, 636, 637, 638, 639} {
			m.T = at
			checkLater(t, "a sample", m)
		}
	}
}

// All ports, and what is written to them.
func TestStepMachineOfPorts(t *testing.T) {
	l := lot(1422)
	for port := range 256 {
		for _, op := range []int{17, 18} {
			for range 6 {
				m := l.someMachine()
				m.Frames, m.Cpu.Halt, m.Cpu.Regs[7] = 5, false, l.below(256)
				m.Memory = placed(m.Cpu, m.Memory, 8*op, port)
				m.Memory.Locked = l.below(4) == 0
				checkLater(t, "a port", m)
			}
		}
	}
}

func TestStepMachineOfMixedMachines(t *testing.T) {
	l := lot(1423)
	for _, m := range rightMachines() {
		checkLater(t, "a right one", m)
	}
	for range 3000 {
		checkLater(t, "a mixed one", l.someMachine())
	}
}

// Instructions that stand in memory that is shared wait, and those in the ROM do not.
func TestStepMachineWaitsForItsOwnBytes(t *testing.T) {
	for at := 120; at < 400; at++ {
		for _, pc := range []int{0, 62, 63, 64, 100, 127, 128, 191, 192, 255} {
			for page := range 4 {
				m := newMachine(times(64, "\x00"))
				m.Memory.Page, m.T, m.Cpu.Pc = page, at, pc
				m.Memory = placed(m.Cpu, m.Memory, 16, 9)
				checkLater(t, "ldn 0 9", m)
			}
		}
	}
}

func TestFullMachines(t *testing.T) {
	for _, m := range rightMachines() {
		m.Frames = lastFrame
		x, code := impl.StepMachine(m)
		checkMachine(t, "StepMachine", x, code, m, impl.ErrFull)
		x, code = impl.RunFrame(m)
		checkMachine(t, "RunFrame", x, code, m, impl.ErrFull)
	}
	for _, at := range []int{0, 7, 639} {
		m := plainMachine()
		m.Frames, m.T = lastFrame-1, at
		x := checkFrame(t, "the last one", m)
		if x.Frames != lastFrame {
			t.Error("behind the last frame there are", x.Frames)
		}
		checkFrame(t, "none any more", x)
		checkLater(t, "none any more", x)
	}
}
