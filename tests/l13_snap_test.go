package tests

import (
	"fmt"
	"math"
	"strings"
	"testing"

	"loop.example/g00644/impl"
)

// noughts is a bank that was never written to, compressed, with its length ahead.
const noughts = "\x04\x00\xed\xed\x40\x00"

type namedSnap struct {
	name string
	s    impl.Snap
}

func newSnap() impl.Snap {
	return impl.Snap{Cpu: impl.NewCpu(), Memory: filled(func(int, int) int { return 0 }), Ports: impl.NewPorts()}
}

// plainSnap has no two numbers of the processor alike, all cells mixed, and keys that are down.
func plainSnap() impl.Snap {
	c := plainCpu()
	c.F, c.Iff, c.Halt = 213, true, true
	return impl.Snap{Cpu: c, Memory: paged(mixedMemory(), 2, 3, false), Ports: portsOf(pressed{2: {4: true}, 7: {0: true}})}
}

func copySnap(s impl.Snap) impl.Snap {
	s.Memory = copyOf(s.Memory)
	return s
}

func sameParts(a, b impl.Snap) bool {
	return a.Cpu == b.Cpu && a.Ports == b.Ports && sameCells(a.Memory, b.Memory)
}

func isZeroSnap(s impl.Snap) bool {
	m := s.Memory
	return s.Cpu == impl.Cpu{} && s.Ports == impl.Ports{} && len(m.Rom) == 0 && len(m.Ram) == 0 && m.Page == 0 && m.Screen == 0 && !m.Locked
}

// bankKinds are banks of one byte, of runs, of marks, and ones that can't be compressed.
func bankKinds() []string {
	list := []string{longText(64), longText(256)[192:], times(32, "ab"), times(63, "a") + "b", "b" + times(63, "a"), times(32, "a") + times(32, "b")}
	for _, b := range []string{"\x00", "\x01", "a", mark, "\xec", "\xee", "\xff"} {
		list = append(list, times(64, b))
	}
	list = append(list, times(32, mark+"a"), times(21, mark+mark+"a")+"a", times(16, mark+mark+mark+"a"), times(63, mark)+"a", times(63, "a")+mark, mark+times(63, "a"), "a"+times(63, mark), mark+"a"+times(62, mark))
	return append(list, "aaaa"+times(5, "b")+times(51, "c")+mark+"ddd", times(16, "aaaa"), times(12, "aaaaa")+"bbbb", times(8, "aaaa"+"bbbb"))
}

func cellsOf(s string) []int {
	var cells []int
	for _, b := range []byte(s) {
		cells = append(cells, int(b))
	}
	return cells
}

// withBanks is s with other banks.
func withBanks(s impl.Snap, banks ...string) impl.Snap {
	s = copySnap(s)
	for i, b := range banks {
		s.Memory.Ram[i] = cellsOf(b)
	}
	return s
}

// withSwitches is a new one with the five bits set by hand.
func withSwitches(bits int) impl.Snap {
	s := newSnap()
	s.Cpu.Iff, s.Cpu.Ei, s.Cpu.Halt, s.Memory.Locked = bits%2 == 1, bits/2%2 == 1, bits/4%2 == 1, bits/8%2 == 1
	if bits/16%2 == 1 {
		s.Memory.Screen = 3
	}
	return s
}

// someBank is mixed bytes, runs, or both.
func (l *lot) someBank() string {
	kinds := bankKinds()
	switch l.below(4) {
	case 0:
		return kinds[l.below(len(kinds))]
	case 1:
		b := make([]byte, 64)
		for i := range b {
			b[i] = []byte{237, 237, 'a', byte(l.someByte())}[l.below(4)]
		}
		return string(b)
	case 2:
		runs := l.someRuns(64)
		return runs + longText(64)[len(runs):]
	}
	b := make([]byte, 64)
	for i := range b {
		b[i] = byte(l.below(256))
	}
	return string(b)
}

func (l *lot) someSnap() impl.Snap {
	s := impl.Snap{Cpu: l.someCpu(), Memory: l.someMemory(), Ports: l.somePorts()}
	s.Cpu.Halt = l.below(3) == 0
	return withBanks(s, l.someBank(), l.someBank(), l.someBank(), l.someBank())
}

// rightSnaps are of all kinds: each number at its ends, each setting, each kind of bank in each place.
func rightSnaps() []impl.Snap {
	list := []impl.Snap{newSnap(), plainSnap(), {Memory: filled(func(int, int) int { return 255 })}}
	for _, v := range []int{0, 1, 254, 255} {
		for _, name := range namesOfNumbers() {
			s := plainSnap()
			*numbersOf(&s.Cpu)[name] = v
			list = append(list, s)
		}
	}
	for bits := range 32 {
		if bits&3 != 2 {
			list = append(list, withSwitches(bits))
		}
	}
	for _, m := range settings() {
		s := plainSnap()
		s.Memory = m
		list = append(list, s)
	}
	for v := range 32 {
		s := plainSnap()
		s.Ports.Border, s.Ports.Mic, s.Ports.Beep = v%8, v/8%2 == 1, v/16 == 1
		list = append(list, s)
	}
	kinds := bankKinds()
	for i := range kinds {
		next := func(k int) string { return kinds[(i+k)%len(kinds)] }
		list = append(list, withBanks(plainSnap(), next(0), next(1), next(2), next(3)), withBanks(newSnap(), next(0), next(0), next(0), next(0)))
	}
	l := lot(1301)
	for range 100 {
		list = append(list, l.someSnap())
	}
	return list
}

// wrongSnaps have one fault each, in the processor, in the memory or in the ports.
func wrongSnaps() []namedSnap {
	var list []namedSnap
	for _, w := range wrongCpus() {
		s := plainSnap()
		s.Cpu = w.c
		list = append(list, namedSnap{"processor: " + w.name, s})
	}
	for _, w := range wrongMemories() {
		s := plainSnap()
		s.Memory = w.m
		list = append(list, namedSnap{"memory: " + w.name, s})
	}
	for _, p := range portsBeyond() {
		s := plainSnap()
		s.Ports = p
		list = append(list, namedSnap{"ports", s})
	}
	return append(list, namedSnap{"zero", impl.Snap{}})
}

// snapWritten is the chapter's sentence told once more.
func snapWritten(s impl.Snap) string {
	out := []byte{3}
	for _, v := range append(s.Cpu.Regs[:], s.Cpu.F, s.Cpu.Sp, s.Cpu.Pc) {
		out = append(out, byte(v))
	}
	bits := 0
	for i, on := range []bool{s.Cpu.Iff, s.Cpu.Ei, s.Cpu.Halt, s.Memory.Locked, s.Memory.Screen == 3} {
		if on {
			bits += []int{1, 2, 4, 8, 16}[i]
		}
	}
	border := s.Ports.Border
	if s.Ports.Mic {
		border += 8
	}
	if s.Ports.Beep {
		border += 16
	}
	out = append(out, byte(bits), byte(s.Memory.Page), byte(border))
	for _, cells := range s.Memory.Ram {
		var raw []byte
		for _, v := range cells {
			raw = append(raw, byte(v))
		}
		packed := compressWritten(string(raw))
		out = append(append(out, byte(len(packed)%256), byte(len(packed)/256)), packed...)
	}
	return string(out)
}

// alikeAtFirst is how many bytes of two texts are alike from the beginning on.
func alikeAtFirst(a, b string) int {
	n := 0
	for n < min(len(a), len(b)) && a[n] == b[n] {
		n++
	}
	return n
}

func checkSnapText(t *testing.T, s impl.Snap, want string) {
	t.Helper()
	if got, code := impl.SnapText(s); got != want || code != impl.OK {
		t.Errorf("SnapText of %+v %+v is %.60x %d, not %.60x; of all bytes %d are alike", s.Cpu, s.Ports, got, code, want, alikeAtFirst(got, want))
	}
}

func TestSnapVersion(t *testing.T) {
	if impl.SnapVersion != 3 {
		t.Error("SnapVersion is", impl.SnapVersion)
	}
}

func TestRightSnaps(t *testing.T) {
	for _, s := range rightSnaps() {
		if !impl.SnapOK(s) {
			t.Error("SnapOK is false of", short(s))
		}
		if !impl.SameSnap(s, s) || !impl.SameSnap(s, copySnap(s)) || !impl.SameSnap(copySnap(s), s) {
			t.Error("a snapshot is not like itself:", short(s))
		}
		checkSnapText(t, s, snapWritten(s))
	}
}

func TestWrongSnaps(t *testing.T) {
	right := plainSnap()
	for _, w := range wrongSnaps() {
		if impl.SnapOK(w.s) {
			t.Error("SnapOK of a wrong", w.name, short(w.s))
		}
		if text, code := impl.SnapText(w.s); text != "" || code != impl.ErrBad {
			t.Errorf("SnapText of a wrong %s is %x %d", w.name, text, code)
		}
		if impl.SameSnap(w.s, w.s) || impl.SameSnap(w.s, right) || impl.SameSnap(right, w.s) || impl.SameSnap(w.s, copySnap(w.s)) {
			t.Error("a wrong", w.name, "is like one")
		}
	}
}

// Two that are wrong have no text, and so nothing in which they are alike.
func TestWrongSnapsAreNotAlike(t *testing.T) {
	list := wrongSnaps()
	for i, w := range list {
		other := list[(7*i+3)%len(list)]
		if impl.SameSnap(w.s, other.s) || impl.SameSnap(other.s, w.s) {
			t.Error("a wrong", w.name, "is like a wrong", other.name)
		}
	}
	// One that lies beyond a byte ends in the same bits as one that does not.
	for _, name := range namesOfNumbers() {
		a, b := plainSnap(), plainSnap()
		*numbersOf(&b.Cpu)[name] += 256
		if impl.SameSnap(a, b) || impl.SameSnap(b, a) || impl.SameSnap(b, b) {
			t.Error("256 more of", name, "is like it")
		}
	}
}

func TestSnapsWrongInMoreThanOnePart(t *testing.T) {
	cpus, memories, ports := wrongCpus(), wrongMemories(), portsBeyond()
	for i, m := range memories {
		c, p := cpus[i%len(cpus)].c, ports[i%len(ports)]
		for _, s := range []impl.Snap{{Cpu: c, Memory: m.m, Ports: p}, {Cpu: c, Memory: m.m}, {Memory: m.m, Ports: p}, {Cpu: c, Memory: mixedMemory(), Ports: p}} {
			if text, code := impl.SnapText(s); impl.SnapOK(s) || text != "" || code != impl.ErrBad || impl.SameSnap(s, s) {
				t.Errorf("of a wrong %s SnapText is %x %d", short(s), text, code)
			}
		}
	}
}

func TestSnapTextOfNewParts(t *testing.T) {
	checkSnapText(t, newSnap(), "\x03\x00\x00\x00\x00\x00\x00\x00\x00\x00\xff\x00\x00\x00\x07"+times(4, noughts))
	m, _ := impl.NewMemory(longText(64))
	checkSnapText(t, impl.Snap{Cpu: impl.NewCpu(), Memory: m, Ports: impl.NewPorts()}, "\x03\x00\x00\x00\x00\x00\x00\x00\x00\x00\xff\x00\x00\x00\x07"+times(4, noughts))
	checkSnapText(t, impl.Snap{Memory: m}, "\x03"+times(14, "\x00")+times(4, noughts))
}

// By name: where the number stands in the text.
func placesInText() map[string]int {
	return map[string]int{"b": 1, "c": 2, "d": 3, "e": 4, "h": 5, "l": 6, "a": 8, "F": 9, "Sp": 10, "Pc": 11}
}

func TestSnapTextOfEachNumber(t *testing.T) {
	plain := "\x03" + "\x10\x21\x82\x31\x64\x42\x00\x4d" + "\xd5\xaa\xc8" + "\x15" + "\x02" + "\x0a"
	banks := snapWritten(plainSnap())[15:]
	checkSnapText(t, plainSnap(), plain+banks)
	for name, place := range placesInText() {
		for v := range 256 {
			s := plainSnap()
			*numbersOf(&s.Cpu)[name] = v
			checkSnapText(t, s, plain[:place]+string([]byte{byte(v)})+plain[place+1:]+banks)
		}
	}
}

func TestSnapTextOfTheSwitches(t *testing.T) {
	head, behind := "\x03"+times(9, "\x00")+"\xff\x00", "\x00\x07"+times(4, noughts)
	for bits := range 32 {
		s := withSwitches(bits)
		if bits&3 == 2 {
			if text, code := impl.SnapText(s); text != "" || code != impl.ErrBad {
				t.Errorf("SnapText of Ei without Iff is %x %d", text, code)
			}
			continue
		}
		checkSnapText(t, s, head+string([]byte{byte(bits)})+behind)
	}
	for bits, set := range map[byte]func(s *impl.Snap){
		0:  func(s *impl.Snap) {},
		1:  func(s *impl.Snap) { s.Cpu.Iff = true },
		3:  func(s *impl.Snap) { s.Cpu.Iff, s.Cpu.Ei = true, true },
		4:  func(s *impl.Snap) { s.Cpu.Halt = true },
		8:  func(s *impl.Snap) { s.Memory.Locked = true },
		16: func(s *impl.Snap) { s.Memory.Screen = 3 },
		31: func(s *impl.Snap) {
			s.Cpu.Iff, s.Cpu.Ei, s.Cpu.Halt, s.Memory.Locked, s.Memory.Screen = true, true, true, true, 3
		},
	} {
		s := newSnap()
		set(&s)
		checkSnapText(t, s, head+string([]byte{bits})+behind)
	}
}

func TestSnapTextOfPagesAndBorders(t *testing.T) {
	head := "\x03" + times(9, "\x00") + "\xff\x00\x00"
	for page := range 4 {
		for border := range 8 {
			for _, row := range []struct {
				mic, beep bool
				more      int
			}{{false, false, 0}, {true, false, 8}, {false, true, 16}, {true, true, 24}} {
				s := newSnap()
				s.Memory.Page = page
				s.Ports.Border, s.Ports.Mic, s.Ports.Beep = border, row.mic, row.beep
				checkSnapText(t, s, head+string([]byte{byte(page), byte(border + row.more)})+times(4, noughts))
			}
		}
	}
}

// sized has the word of its length ahead.
func sized(packed string) string {
	return string([]byte{byte(len(packed)), byte(len(packed) >> 8)}) + packed
}

func TestSnapTextOfEachBank(t *testing.T) {
	head := snapWritten(newSnap())[:15]
	for _, row := range []struct{ raw, packed string }{
		{times(64, "a"), pack(64, "a")},
		{times(64, "\xff"), pack(64, "\xff")},
		{times(64, mark), pack(64, mark)},
		{times(63, "a") + "b", pack(63, "a") + "b"},
		{times(32, "a") + times(32, mark), pack(32, "a") + pack(32, mark)},
		{times(16, "aaaa"), pack(64, "a")},
		{times(8, "aaaabbbb"), times(8, "aaaabbbb")},
		{times(8, "aaaaabbb"), times(8, pack(5, "a")+"bbb")},
		{longText(64), longText(64)},
		{times(32, mark+"a"), times(32, mark+"a")},
		{times(32, "a"+mark), times(32, "a"+mark)},
		{mark + times(63, "a"), mark + "a" + pack(62, "a")},
		{times(63, "a") + mark, pack(63, "a") + mark},
		{"abc" + times(61, "\x00"), "abc" + pack(61, "\x00")},
		{times(21, mark+mark+"a") + "b", times(21, pack(2, mark)+"a") + "b"},
	} {
		for number := range 4 {
			banks := []string{noughts, noughts, noughts, noughts}
			banks[number] = sized(row.packed)
			s := newSnap()
			s.Memory.Ram[number] = cellsOf(row.raw)
			checkSnapText(t, s, head+strings.Join(banks, ""))
		}
		all := withBanks(newSnap(), row.raw, row.raw, row.raw, row.raw)
		checkSnapText(t, all, head+times(4, sized(row.packed)))
	}
}

func TestSnapTextOfBanksInTheirOrder(t *testing.T) {
	head := snapWritten(plainSnap())[:15]
	s := withBanks(plainSnap(), times(64, "a"), longText(64), times(64, mark), "bc"+times(62, "d"))
	checkSnapText(t, s, head+"\x04\x00"+pack(64, "a")+"\x40\x00"+longText(64)+"\x04\x00"+pack(64, mark)+"\x06\x00bc"+pack(62, "d"))
}

func TestSnapTextLeavesOutRomKeysAndJoy(t *testing.T) {
	want := snapWritten(plainSnap())
	for v := range 32 {
		s := plainSnap()
		s.Ports.Joy, s.Ports.Keys[v%8] = v, v
		s.Memory.Rom[v] = 255 - v
		checkSnapText(t, s, want)
	}
}

// changedOnce are s with one change each, and whether its text is another one then.
func changedOnce(s impl.Snap) (told, untold []namedSnap) {
	changed := func(name string, change func(s *impl.Snap)) namedSnap {
		other := copySnap(s)
		change(&other)
		return namedSnap{name, other}
	}
	for _, name := range namesOfNumbers() {
		for bit := range 8 {
			told = append(told, changed(name, func(s *impl.Snap) { *numbersOf(&s.Cpu)[name] ^= 1 << bit }))
		}
	}
	for place := range 64 {
		for number := range 4 {
			told = append(told, changed(fmt.Sprint("byte ", place, " of bank ", number), func(s *impl.Snap) { s.Memory.Ram[number][place] ^= 1 << (place % 8) }))
		}
		untold = append(untold, changed(fmt.Sprint("byte ", place, " of the ROM"), func(s *impl.Snap) { s.Memory.Rom[place] ^= 1 << (place % 8) }))
	}
	for bit := range 2 {
		told = append(told, changed("Page", func(s *impl.Snap) { s.Memory.Page ^= 1 << bit }))
	}
	for bit := range 3 {
		told = append(told, changed("Border", func(s *impl.Snap) { s.Ports.Border ^= 1 << bit }))
	}
	for bit := range 5 {
		untold = append(untold, changed("Joy", func(s *impl.Snap) { s.Ports.Joy ^= 1 << bit }))
		for row := range 8 {
			untold = append(untold, changed("a key", func(s *impl.Snap) { s.Ports.Keys[row] ^= 1 << bit }))
		}
	}
	told = append(told,
		changed("Halt", func(s *impl.Snap) { s.Cpu.Halt = !s.Cpu.Halt }),
		changed("Locked", func(s *impl.Snap) { s.Memory.Locked = !s.Memory.Locked }),
		changed("Screen", func(s *impl.Snap) { s.Memory.Screen ^= 2 }),
		changed("Mic", func(s *impl.Snap) { s.Ports.Mic = !s.Ports.Mic }),
		changed("Beep", func(s *impl.Snap) { s.Ports.Beep = !s.Ports.Beep }))
	if s.Cpu.Iff {
		told = append(told, changed("Ei", func(s *impl.Snap) { s.Cpu.Ei = !s.Cpu.Ei }))
	}
	if !s.Cpu.Ei {
		told = append(told, changed("Iff", func(s *impl.Snap) { s.Cpu.Iff = !s.Cpu.Iff }))
	}
	return told, untold
}

func TestSameSnapOfTwoThatDifferOnce(t *testing.T) {
	l := lot(1302)
	list := []impl.Snap{newSnap(), plainSnap(), l.someSnap(), l.someSnap(), withSwitches(1), withSwitches(3), withBanks(newSnap(), bankKinds()[12:16]...)}
	for _, s := range list {
		told, untold := changedOnce(s)
		for _, other := range told {
			if impl.SameSnap(s, other.s) || impl.SameSnap(other.s, s) || !impl.SameSnap(other.s, other.s) {
				t.Error("SameSnap does not see", other.name)
			}
		}
		for _, other := range untold {
			if !impl.SameSnap(s, other.s) || !impl.SameSnap(other.s, s) {
				t.Error("SameSnap sees", other.name)
			}
		}
	}
}

func TestSameSnapOfBanksInAnotherOrder(t *testing.T) {
	for i := range 4 {
		for j := range i {
			s := plainSnap()
			s.Memory.Ram[i], s.Memory.Ram[j] = s.Memory.Ram[j], s.Memory.Ram[i]
			if impl.SameSnap(s, plainSnap()) || impl.SameSnap(plainSnap(), s) {
				t.Error("banks", i, "and", j, "are taken for each other")
			}
		}
	}
}

// What a text leaves out must be right all the same.
func TestSameSnapAsksAlsoWhatNoTextTells(t *testing.T) {
	for _, wrong := range []func(s *impl.Snap){
		func(s *impl.Snap) { s.Ports.Joy = 32 },
		func(s *impl.Snap) { s.Ports.Joy = -1 },
		func(s *impl.Snap) { s.Ports.Keys[3] = 32 },
		func(s *impl.Snap) { s.Ports.Keys[0] = math.MinInt },
		func(s *impl.Snap) { s.Memory.Rom[5] = 256 },
		func(s *impl.Snap) { s.Memory.Rom = s.Memory.Rom[:63] },
		func(s *impl.Snap) { s.Memory.Rom = nil },
	} {
		s := plainSnap()
		wrong(&s)
		if impl.SnapOK(s) || impl.SameSnap(s, plainSnap()) || impl.SameSnap(plainSnap(), s) || impl.SameSnap(s, s) {
			t.Error("what no text tells is wrong, and is not asked for:", short(s))
		}
	}
}
