package tests

import (
	"math"
	"testing"

	"loop.example/g00644/impl"
)

// pressed are the keys that are down, by row and key: a second keyboard, which knows no bits.
type pressed [8][5]bool

// fiveBits tells the number of five bits that are 1 where a key is up.
func fiveBits(row [5]bool) int {
	v := 0
	for key, weight := range [5]int{1, 2, 4, 8, 16} {
		if !row[key] {
			v += weight
		}
	}
	return v
}

// portsOf are ports with these keys down; Joy, Border and Mic are not as in new ones.
func portsOf(keys pressed) impl.Ports {
	p := impl.Ports{Joy: 21, Border: 2, Mic: true}
	for row := range keys {
		p.Keys[row] = fiveBits(keys[row])
	}
	return p
}

// someKeys has each key down about once in a number of times.
func (l *lot) someKeys(once int) pressed {
	var keys pressed
	for row := range keys {
		for key := range keys[row] {
			keys[row][key] = l.below(once) == 0
		}
	}
	return keys
}

// portsWith are ports with these keys down, all else mixed.
func (l *lot) portsWith(keys pressed) impl.Ports {
	p := portsOf(keys)
	p.Joy, p.Border, p.Mic, p.Beep = l.below(32), l.below(8), l.below(2) == 0, l.below(2) == 0
	return p
}

func (l *lot) somePorts() impl.Ports {
	return l.portsWith(l.someKeys(1 + l.below(6)))
}

// placesOf are the numbers of ports, each with the greatest that is right.
func placesOf(p *impl.Ports) ([]*int, []int) {
	var places []*int
	var greatest []int
	for row := range p.Keys {
		places, greatest = append(places, &p.Keys[row]), append(greatest, 31)
	}
	return append(places, &p.Joy, &p.Border), append(greatest, 31, 7)
}

// portsBeyond have one fault each, in each place by numbers far and near.
func portsBeyond() []impl.Ports {
	var list []impl.Ports
	for _, right := range []impl.Ports{{}, impl.NewPorts(), portsOf(pressed{2: {4: true}})} {
		_, greatest := placesOf(&right)
		for i, most := range greatest {
			for _, v := range []int{math.MinInt, -256, -32, -8, -1, most + 1, most + 2, 2*most + 2, 255, 256, 1 << 32, math.MaxInt} {
				wrong := right
				places, _ := placesOf(&wrong)
				*places[i] = v
				list = append(list, wrong)
			}
		}
	}
	return list
}

func TestNumbersOfPorts(t *testing.T) {
	got := [6]int{impl.PoUla, impl.PoJoy, impl.PoPage, impl.PoSelect, impl.PoData, impl.PoNone}
	if got != [6]int{0, 1, 2, 3, 4, 5} {
		t.Error("the kinds of ports are", got)
	}
}

func TestNewPorts(t *testing.T) {
	p := impl.NewPorts()
	for row, keys := range p.Keys {
		if keys != 31 {
			t.Error("row", row, "of new ports is", keys)
		}
	}
	if p.Joy != 0 || p.Border != 7 || p.Mic || p.Beep {
		t.Error("Joy, Border, Mic, Beep of new ports are", p.Joy, p.Border, p.Mic, p.Beep)
	}
	if !impl.PortsOK(p) {
		t.Error("PortsOK is false of new ports")
	}
	p.Keys[0], p.Keys[7], p.Border = 0, 0, 0
	if q := impl.NewPorts(); q.Keys != [8]int{31, 31, 31, 31, 31, 31, 31, 31} || q.Border != 7 {
		t.Error("after new ports were written to, new ones are", q)
	}
}

func TestRightPorts(t *testing.T) {
	for _, p := range []impl.Ports{{}, impl.NewPorts(), {Mic: true}, {Beep: true}, {Mic: true, Beep: true}, {Keys: [8]int{31, 31, 31, 31, 31, 31, 31, 31}, Joy: 31, Border: 7, Mic: true, Beep: true}} {
		if !impl.PortsOK(p) {
			t.Error("PortsOK is false of", p)
		}
		_, greatest := placesOf(&p)
		for i, most := range greatest {
			for v := range most + 1 {
				right := p
				places, _ := placesOf(&right)
				*places[i] = v
				if !impl.PortsOK(right) {
					t.Error("PortsOK is false of", right)
				}
			}
		}
	}
}

// wantNoPorts asks all calls on ports for one code, with all else zero.
func wantNoPorts(t *testing.T, p impl.Ports, row, key, v, want int) {
	t.Helper()
	for _, on := range []bool{false, true} {
		if x, code := impl.PressKey(p, row, key, on); x != (impl.Ports{}) || code != want {
			t.Error("of", p, "PressKey", row, key, on, "is", x, code)
		}
		if x, code := impl.ReadKeys(p, v, on); x != 0 || code != want {
			t.Error("of", p, "ReadKeys", v, on, "is", x, code)
		}
	}
	if x, code := impl.WriteUla(p, v); x != (impl.Ports{}) || code != want {
		t.Error("of", p, "WriteUla", v, "is", x, code)
	}
}

// Ports that are not right come ahead of numbers out of their bounds.
func TestWrongPorts(t *testing.T) {
	for _, p := range portsBeyond() {
		if impl.PortsOK(p) {
			t.Error("PortsOK of", p)
		}
		wantNoPorts(t, p, 0, 0, 0, impl.ErrBad)
		wantNoPorts(t, p, 7, 4, 255, impl.ErrBad)
		wantNoPorts(t, p, -1, 0, -1, impl.ErrBad)
		wantNoPorts(t, p, 8, 5, 256, impl.ErrBad)
		wantNoPorts(t, p, 0, math.MaxInt, math.MinInt, impl.ErrBad)
	}
}

// Rows and keys that would be right ones if they were cut off, or counted from the end, are among these.
func TestNumbersBesidePorts(t *testing.T) {
	far := []int{math.MinInt, math.MinInt + 1, -1 << 32, -256, -8, -5, -2, -1, 8, 9, 16, 64, 256, 257, 1 << 32, 1<<32 + 1, math.MaxInt}
	l := lot(70)
	for _, v := range far {
		noByte := v
		if v >= 0 && v < 256 {
			noByte = 256 + v
		}
		for range 20 {
			p := l.somePorts()
			wantNoPorts(t, p, v, l.below(5), noByte, impl.ErrRange)
			wantNoPorts(t, p, l.below(8), v, noByte, impl.ErrRange)
			wantNoPorts(t, p, v, v, noByte, impl.ErrRange)
		}
	}
	for row := -3; row <= 10; row++ {
		for key := -3; key <= 10; key++ {
			want := impl.ErrRange
			if row >= 0 && row <= 7 && key >= 0 && key <= 4 {
				want = impl.OK
			}
			if x, code := impl.PressKey(impl.NewPorts(), row, key, true); code != want || want != impl.OK && x != (impl.Ports{}) {
				t.Error("PressKey", row, key, "is", x, code)
			}
		}
	}
}

// kindWritten is the chapter's sentence, by numbers written out.
func kindWritten(n int) int {
	if n%2 == 0 {
		return 0
	}
	if n > 127 {
		return 5
	}
	return map[int]int{1: 1, 3: 4, 5: 2, 7: 3}[n%8]
}

func TestPortKindOfEachByte(t *testing.T) {
	counts := [6]int{}
	for n := range 256 {
		kind, code := impl.PortKind(n)
		if kind != kindWritten(n) || code != impl.OK {
			t.Error("PortKind", n, "is", kind, code)
			continue
		}
		counts[kind]++
	}
	if counts != [6]int{128, 16, 16, 16, 16, 64} {
		t.Error("ports by kind:", counts)
	}
}

func TestPortKindAtItsEnds(t *testing.T) {
	for n, want := range map[int]int{0: 0, 1: 1, 2: 0, 3: 4, 4: 0, 5: 2, 6: 0, 7: 3, 8: 0, 9: 1, 119: 3, 120: 0, 121: 1, 123: 4, 125: 2, 126: 0, 127: 3, 128: 0, 129: 5, 130: 0, 131: 5, 133: 5, 135: 5, 251: 5, 253: 5, 254: 0, 255: 5} {
		if kind, code := impl.PortKind(n); kind != want || code != impl.OK {
			t.Error("PortKind", n, "is", kind, code, "not", want)
		}
	}
}

func TestPortKindOfNoBytes(t *testing.T) {
	for _, n := range append(noBytes(), -255, -129, -128, -127, -7, -5, -3, -2, 258, 259, 383, 511, 512, 1<<32+1, math.MinInt+1, math.MaxInt-1) {
		if kind, code := impl.PortKind(n); kind != 0 || code != impl.ErrRange {
			t.Error("PortKind", n, "is", kind, code)
		}
	}
}

func TestPressKeyOfEachKey(t *testing.T) {
	l := lot(71)
	for round := range 30 {
		keys := l.someKeys(1 + round%6)
		for row := range 8 {
			for key := range 5 {
				for _, down := range []bool{true, false} {
					p := l.portsWith(keys)
					given, want := p, p
					changed := keys
					changed[row][key] = down
					want.Keys[row] = fiveBits(changed[row])
					x, code := impl.PressKey(p, row, key, down)
					if x != want || code != impl.OK {
						t.Error("of", given, "PressKey", row, key, down, "is", x, code)
					}
					if y, code := impl.PressKey(x, row, key, down); y != want || code != impl.OK {
						t.Error("of", given, "PressKey", row, key, down, "twice is", y, code)
					}
					if p != given {
						t.Fatal("PressKey changes", given, "to", p)
					}
				}
			}
		}
	}
}

func TestPressKeyOnNewPorts(t *testing.T) {
	for row := range 8 {
		for key, want := range [5]int{30, 29, 27, 23, 15} {
			p, code := impl.PressKey(impl.NewPorts(), row, key, true)
			if p.Keys[row] != want || code != impl.OK {
				t.Error("PressKey", row, key, "down is", p, code)
			}
			if p, code = impl.PressKey(p, row, key, false); p != impl.NewPorts() || code != impl.OK {
				t.Error("PressKey", row, key, "up is", p, code)
			}
		}
	}
}

// readWritten goes through the chapter's sentence row by row and key by key.
func readWritten(keys pressed, rows int, ear bool) int {
	var down [5]bool
	for row := range 8 {
		if rows%2 == 0 {
			for key := range down {
				down[key] = down[key] || keys[row][key]
			}
		}
		rows /= 2
	}
	v := fiveBits(down) + 32 + 128
	if ear {
		v += 64
	}
	return v
}

// checkReads reads each choice of rows, with the ear and without.
func checkReads(t *testing.T, keys pressed, p impl.Ports) {
	t.Helper()
	given := p
	for rows := range 256 {
		for _, ear := range []bool{false, true} {
			if v, code := impl.ReadKeys(p, rows, ear); v != readWritten(keys, rows, ear) || code != impl.OK {
				t.Error("of", given, "ReadKeys", rows, ear, "is", v, code)
			}
		}
	}
	if p != given {
		t.Fatal("ReadKeys changes", given, "to", p)
	}
}

func TestReadKeysWithNone(t *testing.T) {
	checkReads(t, pressed{}, impl.NewPorts())
	checkReads(t, pressed{}, portsOf(pressed{}))
	for rows := range 256 {
		if v, code := impl.ReadKeys(impl.NewPorts(), rows, false); v != 191 || code != impl.OK {
			t.Error("with no key down ReadKeys", rows, "is", v, code)
		}
		if v, code := impl.ReadKeys(impl.NewPorts(), rows, true); v != 255 || code != impl.OK {
			t.Error("with no key down, by ear, ReadKeys", rows, "is", v, code)
		}
	}
}

// All pairs are those of one row, of two, and, with the same key twice, single ones.
func TestReadKeysWithOneAndTwo(t *testing.T) {
	for first := range 40 {
		for second := first; second < 40; second++ {
			var keys pressed
			keys[first/5][first%5], keys[second/5][second%5] = true, true
			checkReads(t, keys, portsOf(keys))
		}
	}
}

func TestReadKeysWithMany(t *testing.T) {
	l := lot(72)
	for round := range 200 {
		keys := l.someKeys(1 + round%8)
		checkReads(t, keys, l.portsWith(keys))
	}
}

func TestReadKeysWrittenOut(t *testing.T) {
	p := impl.Ports{Keys: [8]int{31, 31, 15, 31, 31, 30, 31, 0}, Joy: 3, Border: 1}
	for _, c := range []struct {
		rows int
		ear  bool
		want int
	}{
		{255, false, 191}, {255, true, 255}, {0, false, 160}, {0, true, 224},
		{251, false, 175}, {251, true, 239}, {223, false, 190}, {223, true, 254},
		{219, false, 174}, {219, true, 238}, {127, false, 160}, {128, false, 174},
		{254, false, 191}, {164, false, 191}, {32, false, 160}, {4 + 128, true, 254},
	} {
		if v, code := impl.ReadKeys(p, c.rows, c.ear); v != c.want || code != impl.OK {
			t.Error("ReadKeys", c.rows, c.ear, "is", v, code, "not", c.want)
		}
	}
}

func TestNoBytesBesidePorts(t *testing.T) {
	for _, v := range append(noBytes(), -255, -128, -2, 258, 511, 512, math.MinInt+1, math.MaxInt-1) {
		for _, p := range []impl.Ports{{}, impl.NewPorts(), portsOf(pressed{3: {1: true}})} {
			if x, code := impl.ReadKeys(p, v, true); x != 0 || code != impl.ErrRange {
				t.Error("ReadKeys", v, "is", x, code)
			}
			if x, code := impl.WriteUla(p, v); x != (impl.Ports{}) || code != impl.ErrRange {
				t.Error("WriteUla", v, "is", x, code)
			}
		}
	}
}

// From each Border, Mic and Beep on: what was there ahead leaves nothing.
func TestWriteUlaOfEachByte(t *testing.T) {
	l := lot(73)
	for before := range 32 {
		p := l.somePorts()
		p.Border, p.Mic, p.Beep = before%8, before/8%2 == 1, before/16 == 1
		given := p
		for v := range 256 {
			want := given
			want.Border, want.Mic, want.Beep = v%8, v/8%2 == 1, v/16%2 == 1
			if x, code := impl.WriteUla(p, v); x != want || code != impl.OK {
				t.Error("of", given, "WriteUla", v, "is", x, code)
			}
		}
		if p != given {
			t.Fatal("WriteUla changes", given, "to", p)
		}
	}
}

func TestWriteUlaWrittenOut(t *testing.T) {
	for v, want := range map[int]impl.Ports{
		0: {}, 1: {Border: 1}, 2: {Border: 2}, 4: {Border: 4}, 7: {Border: 7},
		8: {Mic: true}, 15: {Border: 7, Mic: true}, 16: {Beep: true}, 23: {Border: 7, Beep: true},
		24: {Mic: true, Beep: true}, 31: {Border: 7, Mic: true, Beep: true},
		32: {}, 64: {}, 128: {}, 224: {}, 255: {Border: 7, Mic: true, Beep: true},
	} {
		for _, from := range []impl.Ports{{}, {Border: 7, Mic: true, Beep: true}} {
			if x, code := impl.WriteUla(from, v); x != want || code != impl.OK {
				t.Error("of", from, "WriteUla", v, "is", x, code)
			}
		}
	}
}
