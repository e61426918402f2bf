package tests

import (
	"math"
	"reflect"
	"strings"
	"testing"

	"loop.example/g00644/impl"
)

// filled is a memory whose cells hold what the rule says of their bank (-1: the ROM) and their place.
func filled(rule func(bank, place int) int) impl.Memory {
	m := impl.Memory{Screen: 1}
	for place := range 64 {
		m.Rom = append(m.Rom, rule(-1, place))
	}
	for bank := range 4 {
		var cells []int
		for place := range 64 {
			cells = append(cells, rule(bank, place))
		}
		m.Ram = append(m.Ram, cells)
	}
	return m
}

func mixedCells(bank, place int) int { return (100 + 37*bank + 11*place) % 256 }

func mixedMemory() impl.Memory { return filled(mixedCells) }

func paged(m impl.Memory, page, screen int, locked bool) impl.Memory {
	m.Page, m.Screen, m.Locked = page, screen, locked
	return m
}

func copyOf(m impl.Memory) impl.Memory {
	m.Rom = append([]int(nil), m.Rom...)
	var ram [][]int
	for _, cells := range m.Ram {
		ram = append(ram, append([]int(nil), cells...))
	}
	m.Ram = ram
	return m
}

// settings are all Pages, Screens and locks, of mixed cells.
func settings() []impl.Memory {
	var list []impl.Memory
	for page := range 4 {
		for _, screen := range []int{1, 3} {
			for _, locked := range []bool{false, true} {
				list = append(list, paged(mixedMemory(), page, screen, locked))
			}
		}
	}
	return list
}

// shownCell tells what stands at an address, by the list of what is shown one behind the other.
func shownCell(page, address int) (bank, place int) {
	var list [][2]int
	for _, bank := range []int{-1, 1, 2, page} {
		for place := range 64 {
			list = append(list, [2]int{bank, place})
		}
	}
	return list[address][0], list[address][1]
}

type namedMemory struct {
	name string
	m    impl.Memory
}

// wrongMemories have one fault each.
func wrongMemories() []namedMemory {
	list := []namedMemory{{"zero", impl.Memory{}}}
	add := func(name string, change func(m *impl.Memory)) {
		m := mixedMemory()
		change(&m)
		list = append(list, namedMemory{name, m})
	}
	add("ROM nil", func(m *impl.Memory) { m.Rom = nil })
	add("ROM of 63", func(m *impl.Memory) { m.Rom = m.Rom[:63] })
	add("ROM of 65", func(m *impl.Memory) { m.Rom = append(m.Rom, 0) })
	add("ROM of 128", func(m *impl.Memory) { m.Rom = append(m.Rom, m.Rom...) })
	add("no banks", func(m *impl.Memory) { m.Ram = nil })
	add("three banks", func(m *impl.Memory) { m.Ram = m.Ram[:3] })
	add("five banks", func(m *impl.Memory) { m.Ram = append(m.Ram, make([]int, 64)) })
	add("eight banks", func(m *impl.Memory) { m.Ram = append(m.Ram, m.Ram...) })
	for bank := range 4 {
		add("bank nil", func(m *impl.Memory) { m.Ram[bank] = nil })
		add("bank of 63", func(m *impl.Memory) { m.Ram[bank] = m.Ram[bank][:63] })
		add("bank of 65", func(m *impl.Memory) { m.Ram[bank] = append(m.Ram[bank], 0) })
	}
	for _, v := range []int{math.MinInt, -256, -1, 256, 257, 1 << 32, math.MaxInt} {
		for _, place := range []int{0, 1, 31, 62, 63} {
			add("ROM of no bytes", func(m *impl.Memory) { m.Rom[place] = v })
			for bank := range 4 {
				add("bank of no bytes", func(m *impl.Memory) { m.Ram[bank][place] = v })
			}
		}
	}
	for _, v := range []int{math.MinInt, -4, -2, -1, 4, 5, 256, 1 << 32, math.MaxInt} {
		add("Page", func(m *impl.Memory) { m.Page = v })
	}
	for _, v := range []int{math.MinInt, -3, -1, 0, 2, 4, 5, 7, 11, 257, 1<<32 + 1, math.MaxInt} {
		add("Screen", func(m *impl.Memory) { m.Screen = v })
	}
	return list
}

func noBytes() []int {
	return []int{math.MinInt, math.MinInt + 64, -1 << 32, -257, -256, -192, -64, -1, 256, 257, 320, 1<<32 + 64, math.MaxInt}
}

// wantCode asks all calls that take a memory and numbers for one code, with all else zero.
func wantCode(t *testing.T, name string, m impl.Memory, address, v, want int) {
	t.Helper()
	if bank, place, code := impl.WhereIs(m, address); bank != 0 || place != 0 || code != want {
		t.Error(name, "WhereIs", address, "is", bank, place, code)
	}
	if x, code := impl.PeekAt(m, address); x != 0 || code != want {
		t.Error(name, "PeekAt", address, "is", x, code)
	}
	if yes, code := impl.IsShared(m, address); yes || code != want {
		t.Error(name, "IsShared", address, "is", yes, code)
	}
	if x, code := impl.PokeAt(m, address, v); !reflect.DeepEqual(x, impl.Memory{}) || code != want {
		t.Error(name, "PokeAt", address, v, "is", short(x), code)
	}
	if x, code := impl.PageTo(m, v); !reflect.DeepEqual(x, impl.Memory{}) || code != want {
		t.Error(name, "PageTo", v, "is", short(x), code)
	}
}

func TestMemorySizes(t *testing.T) {
	if impl.RomSize != 64 || impl.Banks != 4 || impl.BankSize != 64 {
		t.Error("RomSize, Banks, BankSize are", impl.RomSize, impl.Banks, impl.BankSize)
	}
}

func TestNewMemory(t *testing.T) {
	roms := []string{longText(64), strings.Repeat("\x00", 64), strings.Repeat("\xff", 64), longText(256)[128:192]}
	for _, rom := range roms {
		want := filled(func(bank, place int) int {
			if bank == -1 {
				return int(rom[place])
			}
			return 0
		})
		m, code := impl.NewMemory(rom)
		if code != impl.OK || !reflect.DeepEqual(m, want) || !impl.MemoryOK(m) {
			t.Error("NewMemory is", short(m), code)
		}
	}
}

func TestNewMemoryOfAnotherLength(t *testing.T) {
	for n, want := range map[int]int{
		0: impl.ErrSize, 1: impl.ErrSize, 32: impl.ErrSize, 63: impl.ErrSize, 65: impl.ErrSize, 128: impl.ErrSize,
		320: impl.ErrSize, impl.MaxText - 1: impl.ErrSize, impl.MaxText: impl.ErrSize, impl.MaxText + 1: impl.ErrLong, impl.MaxText + 64: impl.ErrLong, 2 * impl.MaxText: impl.ErrLong,
	} {
		if m, code := impl.NewMemory(longText(n)); !reflect.DeepEqual(m, impl.Memory{}) || code != want {
			t.Error("NewMemory of", n, "bytes is", short(m), code)
		}
	}
}

func TestRightMemories(t *testing.T) {
	list := settings()
	for _, v := range []int{0, 1, 254, 255} {
		list = append(list, filled(func(int, int) int { return v }))
	}
	for _, m := range list {
		if !impl.MemoryOK(m) || !impl.SameMemory(m, m) || !impl.SameMemory(m, copyOf(m)) {
			t.Error("Page", m.Page, "Screen", m.Screen, "Locked", m.Locked, "is not right, or not like itself")
		}
	}
}

func TestWrongMemories(t *testing.T) {
	right := mixedMemory()
	for _, w := range wrongMemories() {
		for _, locked := range []bool{false, true} {
			m := w.m
			m.Locked = locked
			if impl.MemoryOK(m) {
				t.Error(w.name, "is right")
			}
			if impl.SameMemory(m, m) || impl.SameMemory(m, right) || impl.SameMemory(right, m) || impl.SameMemory(m, copyOf(m)) {
				t.Error(w.name, "is like one")
			}
			for _, v := range []int{0, 64, 128, 192, 255} {
				wantCode(t, w.name, m, v, v, impl.ErrBad)
			}
			for _, v := range []int{-1, 256, math.MinInt, math.MaxInt} {
				wantCode(t, w.name, m, v, v, impl.ErrBad)
				wantCode(t, w.name, m, v, 0, impl.ErrBad)
				wantCode(t, w.name, m, 0, v, impl.ErrBad)
			}
		}
	}
}

func TestNumbersThatAreNoBytes(t *testing.T) {
	for _, m := range settings() {
		for _, v := range noBytes() {
			wantCode(t, "right", m, v, v, impl.ErrRange)
			for _, fine := range []int{0, 64, 128, 192, 255} {
				if x, code := impl.PokeAt(m, v, fine); !reflect.DeepEqual(x, impl.Memory{}) || code != impl.ErrRange {
					t.Error("PokeAt", v, fine, "is", short(x), code)
				}
				if x, code := impl.PokeAt(m, fine, v); !reflect.DeepEqual(x, impl.Memory{}) || code != impl.ErrRange {
					t.Error("PokeAt", fine, v, "is", short(x), code)
				}
			}
		}
	}
}

func TestEveryAddressOfEveryPage(t *testing.T) {
	places := filled(func(bank, place int) int { return place })
	banks := filled(func(bank, place int) int { return 10 + bank })
	for _, s := range settings() {
		byPlace, byBank := paged(places, s.Page, s.Screen, s.Locked), paged(banks, s.Page, s.Screen, s.Locked)
		for address := range 256 {
			bank, place := shownCell(s.Page, address)
			if b, p, code := impl.WhereIs(s, address); b != bank || p != place || code != impl.OK {
				t.Error("with Page", s.Page, "WhereIs", address, "is", b, p, code)
			}
			if v, code := impl.PeekAt(byPlace, address); v != place || code != impl.OK {
				t.Error("with Page", s.Page, "PeekAt", address, "is of place", v, code)
			}
			if v, code := impl.PeekAt(byBank, address); v != 10+bank || code != impl.OK {
				t.Error("with Page", s.Page, "PeekAt", address, "is of bank", v-10, code)
			}
			if v, code := impl.PeekAt(s, address); v != mixedCells(bank, place) || code != impl.OK {
				t.Error("with Page", s.Page, "PeekAt", address, "is", v, code)
			}
		}
	}
}

func TestWhatIsShared(t *testing.T) {
	for _, m := range settings() {
		last := map[int]bool{0: false, 1: true, 2: false, 3: true}[m.Page]
		for address := range 256 {
			want := [4]bool{false, true, false, last}[address/64]
			if yes, code := impl.IsShared(m, address); yes != want || code != impl.OK {
				t.Error("with Page", m.Page, "and Screen", m.Screen, "IsShared", address, "is", yes, code)
			}
		}
	}
}

// TestEveryAddressIsWritten holds the whole memory against one whose one cell was set by hand.
func TestEveryAddressIsWritten(t *testing.T) {
	for _, m := range settings() {
		for address := range 256 {
			bank, place := shownCell(m.Page, address)
			for _, v := range []int{0, 1, 127, 128, 255} {
				want := copyOf(m)
				if bank >= 0 {
					want.Ram[bank][place] = v
				}
				if x, code := impl.PokeAt(m, address, v); !reflect.DeepEqual(x, want) || code != impl.OK || !impl.MemoryOK(x) {
					t.Error("with Page", m.Page, "PokeAt", address, v, "is", code)
				}
			}
		}
	}
}

func TestWhatIsShownTwice(t *testing.T) {
	for page := range 4 {
		m := paged(mixedMemory(), page, 1, false)
		for place := range 64 {
			twin := map[int]int{1: 64 + place, 2: 128 + place}
			x, _ := impl.PokeAt(m, 192+place, 201)
			y := m
			if at, twice := twin[page]; twice {
				y, _ = impl.PokeAt(m, at, 201)
			}
			for _, bank := range []int{1, 2} {
				want := mixedCells(bank, place)
				if bank == page {
					want = 201
				}
				for _, z := range []impl.Memory{x, y} {
					if v, code := impl.PeekAt(z, twin[bank]); v != want || code != impl.OK {
						t.Error("with Page", page, "at", twin[bank], "stands", v, code)
					}
				}
			}
			if _, twice := twin[page]; twice && !impl.SameMemory(x, y) {
				t.Error("with Page", page, "writing to place", place, "hangs on the address")
			}
		}
	}
}

func TestRomStays(t *testing.T) {
	for _, m := range settings() {
		for address := range 64 {
			x, code := impl.PokeAt(m, address, 255-m.Rom[address])
			if code != impl.OK || !impl.SameMemory(x, m) {
				t.Error("PokeAt", address, "of the ROM changes something:", code)
			}
			if v, code := impl.PeekAt(x, address); v != mixedCells(-1, address) || code != impl.OK {
				t.Error("PeekAt", address, "of the ROM is", v, code)
			}
		}
	}
}

func TestEveryByteHandedToPageTo(t *testing.T) {
	for _, m := range settings() {
		for v := range 256 {
			x, code := impl.PageTo(m, v)
			want, wantCode := copyOf(m), impl.ErrLocked
			if !m.Locked {
				wantCode = impl.OK
				want.Page = v % 4
				want.Screen = []int{1, 3}[v/8%2]
				want.Locked = v/32%2 == 1
			}
			if code != wantCode || !reflect.DeepEqual(x, want) {
				t.Error("PageTo", v, "is Page", x.Page, "Screen", x.Screen, "Locked", x.Locked, code)
			}
		}
	}
}

func TestPageToAtItsBits(t *testing.T) {
	for v, want := range map[int]impl.Memory{
		0: {Page: 0, Screen: 1}, 1: {Page: 1, Screen: 1}, 2: {Page: 2, Screen: 1}, 3: {Page: 3, Screen: 1}, 4: {Page: 0, Screen: 1}, 8: {Page: 0, Screen: 3}, 16: {Page: 0, Screen: 1},
		32: {Page: 0, Screen: 1, Locked: true}, 43: {Page: 3, Screen: 3, Locked: true}, 64: {Page: 0, Screen: 1}, 128: {Page: 0, Screen: 1}, 212: {Page: 0, Screen: 1}, 255: {Page: 3, Screen: 3, Locked: true},
	} {
		x, code := impl.PageTo(mixedMemory(), v)
		if x.Page != want.Page || x.Screen != want.Screen || x.Locked != want.Locked || code != impl.OK {
			t.Error("PageTo", v, "is Page", x.Page, "Screen", x.Screen, "Locked", x.Locked, code)
		}
	}
}

func TestUnlikeMemories(t *testing.T) {
	m := paged(mixedMemory(), 1, 1, false)
	unlike := []impl.Memory{paged(m, 2, 1, false), paged(m, 1, 3, false), paged(m, 1, 1, true)}
	for place := range 64 {
		for bank := range 4 {
			x := copyOf(m)
			x.Ram[bank][place] ^= 1
			unlike = append(unlike, x)
		}
		x := copyOf(m)
		x.Rom[place] ^= 128
		unlike = append(unlike, x)
	}
	for i, x := range unlike {
		if !impl.SameMemory(x, x) || impl.SameMemory(m, x) || impl.SameMemory(x, m) {
			t.Error("SameMemory of unlike memory", i)
		}
	}
	turned := copyOf(m)
	turned.Ram[0], turned.Ram[3] = turned.Ram[3], turned.Ram[0]
	if impl.SameMemory(m, turned) {
		t.Error("SameMemory of banks in another order")
	}
}
