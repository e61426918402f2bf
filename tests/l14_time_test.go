package tests

import (
	"math"
	"testing"

	"loop.example/g00644/impl"
)

// isHeld tells whether who asks for the screen's bytes at a T, of whatever frame, has to wait there.
func isHeld(at int) bool {
	line, into := at/32%20, at%32
	return line >= 4 && line < 12 && into < 16 && into%8 < 6
}

func asksScreen(m impl.Machine, c impl.Cycle) bool {
	if c.Kind == 4 || c.Kind == 5 {
		return c.Address%2 == 0
	}
	return c.Address >= 64 && c.Address < 128 || c.Address >= 192 && (m.Memory.Page == 1 || m.Memory.Page == 3)
}

// timeWritten waits T by T until it is let, and does not reckon how long that is.
func timeWritten(m impl.Machine, list []impl.Cycle) int {
	now := m.T
	for _, c := range list {
		for asksScreen(m, c) && isHeld(now) {
			now++
		}
		now += [6]int{0, 4, 3, 3, 4, 4}[c.Kind]
	}
	return now - m.T
}

func checkTime(t *testing.T, m impl.Machine, list []impl.Cycle, want int) {
	t.Helper()
	if n, code := impl.CyclesTime(m, list); n != want || code != impl.OK {
		t.Fatal("CyclesTime at", m.T, "with Page", m.Memory.Page, "of", list, "is", n, code, "not", want)
	}
}

func checkNoTime(t *testing.T, m impl.Machine, list []impl.Cycle, want int) {
	t.Helper()
	if n, code := impl.CyclesTime(m, list); n != 0 || code != want {
		t.Error("CyclesTime of", len(list), "cycles", short(list), "is", n, code, "not", want)
	}
}

// pagedMachine is a plain one at a T with a Page.
func pagedMachine(at, page int) impl.Machine {
	m := plainMachine()
	m.T, m.Memory.Page = at, page
	return m
}

func TestCyclesTimeOfNone(t *testing.T) {
	for at := range 640 {
		checkTime(t, pagedMachine(at, at%4), nil, 0)
		checkTime(t, pagedMachine(at, at%4), []impl.Cycle{}, 0)
	}
}

func TestCyclesTimeOfEachCycle(t *testing.T) {
	for _, at := range []int{0, 1, 127, 128, 129, 130, 131, 132, 133, 134, 135, 136, 143, 144, 159, 160, 352, 353, 365, 366, 367, 368, 383, 384, 632, 638, 639} {
		for page := range 4 {
			m := pagedMachine(at, page)
			for kind := 1; kind <= 5; kind++ {
				for address := range 256 {
					list := []impl.Cycle{{Kind: kind, Address: address, Value: address ^ 255}}
					checkTime(t, m, list, timeWritten(m, list))
				}
			}
		}
	}
}

func TestCyclesTimeAtEachT(t *testing.T) {
	for at := range 640 {
		for page := range 4 {
			m := pagedMachine(at, page)
			for kind := 1; kind <= 5; kind++ {
				for _, address := range []int{0, 1, 63, 64, 65, 127, 128, 191, 192, 255} {
					list := []impl.Cycle{{Kind: kind, Address: address}}
					checkTime(t, m, list, timeWritten(m, list))
				}
			}
		}
	}
}

type timeRow struct {
	at, page int
	list     []impl.Cycle
	want     int
}

func timeRows() []timeRow {
	fetch, read := impl.Cycle{Kind: 1, Address: 64}, impl.Cycle{Kind: 2, Address: 127, Value: 9}
	write, rom := impl.Cycle{Kind: 3, Address: 192}, impl.Cycle{Kind: 1, Address: 63}
	even, odd := impl.Cycle{Kind: 4, Address: 254}, impl.Cycle{Kind: 5, Address: 65}
	return []timeRow{
		{0, 0, cycles(fetch), 4}, {0, 0, cycles(read), 3}, {0, 1, cycles(write), 3}, {0, 0, cycles(even), 4}, {0, 0, cycles(odd), 4},
		{127, 0, cycles(fetch), 4}, {128, 0, cycles(fetch), 10}, {129, 0, cycles(fetch), 9}, {133, 0, cycles(fetch), 5}, {134, 0, cycles(fetch), 4}, {135, 0, cycles(fetch), 4}, {136, 0, cycles(fetch), 10},
		{141, 0, cycles(fetch), 5}, {142, 0, cycles(fetch), 4}, {143, 0, cycles(fetch), 4}, {144, 0, cycles(fetch), 4}, {159, 0, cycles(fetch), 4}, {160, 0, cycles(fetch), 10},
		{352, 0, cycles(read), 9}, {367, 0, cycles(read), 3}, {384, 0, cycles(read), 3}, {384, 0, cycles(even), 4},
		{128, 0, cycles(rom), 4}, {128, 0, cycles(odd), 4}, {128, 0, cycles(even), 10},
		{128, 0, cycles(write), 3}, {128, 1, cycles(write), 9}, {128, 2, cycles(write), 3}, {128, 3, cycles(write), 9},
		{127, 0, cycles(fetch, read), 4 + 3 + 3}, {124, 0, cycles(fetch, read), 4 + 6 + 3}, {128, 0, cycles(rom, read), 4 + 2 + 3}, {128, 0, cycles(fetch, fetch), 10 + 4 + 4}, {128, 3, cycles(fetch, read, write), 10 + 4 + 3 + 3},
		{639, 0, cycles(fetch, read), 7}, {636, 1, cycles(write, even, odd), 11},
	}
}

func TestCyclesTimeRows(t *testing.T) {
	for _, r := range timeRows() {
		m := pagedMachine(r.at, r.page)
		if written := timeWritten(m, r.list); written != r.want {
			t.Error("the second writing is", written, "of", r)
		}
		checkTime(t, m, r.list, r.want)
	}
}

func (l *lot) someCycle() impl.Cycle {
	return impl.Cycle{Kind: 1 + l.below(5), Address: l.someByte(), Value: l.someByte()}
}

func (l *lot) someCycles(n int) []impl.Cycle {
	var list []impl.Cycle
	for range n {
		list = append(list, l.someCycle())
	}
	return list
}

func TestCyclesTimeOfSeveral(t *testing.T) {
	l := lot(1410)
	for n := range 21 {
		for range 400 {
			m, list := pagedMachine(l.someT(), l.below(4)), l.someCycles(n)
			checkTime(t, m, list, timeWritten(m, list))
		}
	}
}

// The screen does not begin anew by the frames that are counted, but by T that goes round: 20 cycles can't get there, as the screen is far from the end, so what comes first behind it is not held.
func TestCyclesTimeOverTheEnd(t *testing.T) {
	for at := 560; at < 640; at++ {
		for n := range 21 {
			for _, c := range []impl.Cycle{{Kind: 1, Address: 70}, {Kind: 2, Address: 70}, {Kind: 5, Address: 4}} {
				m := pagedMachine(at, 1)
				length, _ := impl.LengthOf(c.Kind)
				var list []impl.Cycle
				for range n {
					list = append(list, c)
				}
				checkTime(t, m, list, n*length)
			}
		}
	}
}

func TestCyclesTimeOfTooMany(t *testing.T) {
	l := lot(1411)
	m := plainMachine()
	checkTime(t, m, l.someCycles(0), 0)
	list := make([]impl.Cycle, 20)
	for i := range list {
		list[i] = impl.Cycle{Kind: 2, Address: 1}
	}
	checkTime(t, m, list, 60)
	for _, n := range []int{21, 22, 40, 255, 256, impl.MaxList - 1, impl.MaxList} {
		checkNoTime(t, m, l.someCycles(n), impl.ErrBad)
		checkNoTime(t, m, make([]impl.Cycle, n), impl.ErrBad)
	}
	for _, n := range []int{impl.MaxList + 1, impl.MaxList + 20, 3 * impl.MaxList} {
		checkNoTime(t, m, l.someCycles(n), impl.ErrLong)
		checkNoTime(t, impl.Machine{}, make([]impl.Cycle, n), impl.ErrLong)
	}
}

func wrongCycles() []impl.Cycle {
	list := []impl.Cycle{{}}
	for _, v := range append(farNumbers(1, 5), 0, 6) {
		list = append(list, impl.Cycle{Kind: v, Address: 3, Value: 4})
	}
	for _, v := range append(noBytes(), farNumbers(0, 255)...) {
		for kind := 1; kind <= 5; kind++ {
			list = append(list, impl.Cycle{Kind: kind, Address: v, Value: 4}, impl.Cycle{Kind: kind, Address: 3, Value: v})
		}
	}
	return list
}

func TestCyclesTimeOfWhatIsNone(t *testing.T) {
	l := lot(1412)
	m := plainMachine()
	for _, wrong := range wrongCycles() {
		checkNoTime(t, m, []impl.Cycle{wrong}, impl.ErrBad)
		for _, at := range []int{0, 7, 19} {
			list := l.someCycles(20)
			list[at] = wrong
			checkNoTime(t, m, list, impl.ErrBad)
		}
	}
	for _, right := range []impl.Cycle{{Kind: 1}, {Kind: 5, Address: 255, Value: 255}, {Kind: 3, Value: 255}, {Kind: 4, Address: 255}} {
		checkTime(t, m, []impl.Cycle{right}, timeWritten(m, []impl.Cycle{right}))
	}
}

// fetchWritten is the place of the screen's bank that is fetched at a T, or -1.
func fetchWritten(at int) int { return drawnFrame()[at].fetch }

// portWritten is the chapter's sentence told once more.
func portWritten(m impl.Machine, port int) int {
	switch kindWritten(port) {
	case 0:
		keys, selected := 31, m.Cpu.Regs[7]
		for row := range 8 {
			if selected>>row%2 == 0 {
				keys &= m.Ports.Keys[row]
			}
		}
		if m.Deck.Level {
			return 32 + 128 + 64 + keys
		}
		return 32 + 128 + keys
	case 1:
		return m.Ports.Joy
	case 3:
		return m.Psg.Regs[m.Psg.Select]
	}
	line, into := m.T/32, m.T%32
	if line < 4 || line > 11 || into > 15 || into%4 > 1 {
		return 255
	}
	return m.Memory.Ram[m.Memory.Screen][4*(line-4)+into/4+into%4*32]
}

func checkPort(t *testing.T, m impl.Machine, port, want int) {
	t.Helper()
	if v, code := impl.PortValue(m, port); v != want || code != impl.OK {
		t.Fatal("PortValue of port", port, "at", m.T, "with Screen", m.Memory.Screen, "is", v, code, "not", want)
	}
}

func TestPortValueOfEachPortAtEachT(t *testing.T) {
	m := plainMachine()
	for at := range 640 {
		m.T, m.Memory.Screen = at, 1+2*(at/3%2)
		for port := range 256 {
			checkPort(t, m, port, portWritten(m, port))
		}
	}
}

// All cells of a screen are other numbers than 255, so that it is seen where something is fetched.
func TestPortValueOfTheScreen(t *testing.T) {
	for _, screen := range []int{1, 3} {
		for page := range 4 {
			m := newMachine(longText(64))
			m.Memory = paged(filled(func(bank, place int) int { return (64*bank + place + 64) % 255 }), page, screen, false)
			for at := range 640 {
				m.T = at
				want := 255
				if place := fetchWritten(at); place >= 0 {
					want = m.Memory.Ram[screen][place]
				}
				for _, port := range []int{3, 5, 11, 13, 61, 123, 125, 129, 131, 133, 135, 253, 255} {
					checkPort(t, m, port, want)
				}
			}
		}
	}
}

func TestPortValueOfTheSoundChip(t *testing.T) {
	for _, p := range []impl.Psg{impl.NewPsg(), fullPsg(), unlikePsg()} {
		for selected := range 8 {
			for _, at := range []int{0, 128, 130, 639} {
				m := plainMachine()
				m.Psg, m.T = p, at
				m.Psg.Select = selected
				for port := 7; port < 128; port += 8 {
					checkPort(t, m, port, p.Regs[selected])
				}
			}
		}
	}
}

func TestPortValueOfKeysAndTape(t *testing.T) {
	for row := range 8 {
		for key := range 5 {
			for _, level := range []bool{false, true} {
				var keys pressed
				keys[row][key] = true
				m := plainMachine()
				m.Ports, m.Deck.Level = portsOf(keys), level
				for rows := range 256 {
					m.Cpu.Regs[7] = rows
					want := readWritten(keys, rows, level)
					checkPort(t, m, 0, want)
					checkPort(t, m, 254, want)
					checkPort(t, m, 2*row+64, want)
				}
			}
		}
	}
}

// The ear hears the level whether the tape plays or not, and the other registers are not asked.
func TestPortValueHearsTheLevelAlone(t *testing.T) {
	m := newMachine(longText(64))
	m.Cpu.Regs = [8]int{1, 2, 4, 8, 16, 32, 0, 0}
	for _, d := range rightDecks() {
		m.Deck = d
		want := 191
		if d.Level {
			want = 255
		}
		checkPort(t, m, 0, want)
	}
}

func TestPortValueOfTheJoy(t *testing.T) {
	m := plainMachine()
	for joy := range 32 {
		m.Ports.Joy = joy
		for port := 1; port < 128; port += 8 {
			checkPort(t, m, port, joy)
		}
		m.T = 128 + joy
		checkPort(t, m, 129, portWritten(m, 129))
	}
}

func TestPortValueOfMixedMachines(t *testing.T) {
	l := lot(1413)
	for range 400 {
		m := l.someMachine()
		for port := range 256 {
			checkPort(t, m, port, portWritten(m, port))
		}
	}
}

func TestPortValueOfNoPort(t *testing.T) {
	for _, m := range []impl.Machine{newMachine(longText(64)), plainMachine()} {
		for _, port := range append(append(noBytes(), farNumbers(0, 255)...), 256, 511, math.MaxInt) {
			if v, code := impl.PortValue(m, port); v != 0 || code != impl.ErrRange {
				t.Error("PortValue of", port, "is", v, code)
			}
			if v, code := impl.PortValue(impl.Machine{}, port); v != 0 || code != impl.ErrBad {
				t.Error("of no machine PortValue of", port, "is", v, code)
			}
		}
	}
}
