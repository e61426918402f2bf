package tests

import (
	"maps"
	"math"
	"reflect"
	"slices"
	"testing"

	"loop.example/g00644/impl"
)

type namedCpu struct {
	name string
	c    impl.Cpu
}

// plainCpu has no two numbers alike; h points into bank 1, d and Sp into bank 2.
func plainCpu() impl.Cpu {
	return impl.Cpu{Regs: [8]int{16, 33, 130, 49, 100, 66, 0, 77}, Sp: 170, Pc: 200}
}

// numbersOf are the numbers of a processor that are any bytes.
func numbersOf(c *impl.Cpu) map[string]*int {
	return map[string]*int{
		"b": &c.Regs[0], "c": &c.Regs[1], "d": &c.Regs[2], "e": &c.Regs[3], "h": &c.Regs[4], "l": &c.Regs[5], "a": &c.Regs[7],
		"F": &c.F, "Sp": &c.Sp, "Pc": &c.Pc,
	}
}

func namesOfNumbers() []string {
	return slices.Sorted(maps.Keys(numbersOf(&impl.Cpu{})))
}

// wrongCpus have one fault each.
func wrongCpus() []namedCpu {
	var list []namedCpu
	for _, v := range noBytes() {
		for _, name := range namesOfNumbers() {
			wrong := plainCpu()
			*numbersOf(&wrong)[name] = v
			list = append(list, namedCpu{name, wrong})
		}
	}
	for _, v := range append(noBytes(), 1, 2, 128, 255) {
		wrong := plainCpu()
		wrong.Regs[6] = v
		list = append(list, namedCpu{"register 6", wrong})
	}
	wrong := plainCpu()
	wrong.Ei = true
	list = append(list, namedCpu{"Ei", wrong})
	wrong.Halt = true
	return append(list, namedCpu{"Ei, halted", wrong})
}

func TestConstantsOfTheProcessor(t *testing.T) {
	got := [6]int{impl.CyFetch, impl.CyRead, impl.CyWrite, impl.CyIn, impl.CyOut, impl.IntAt}
	if got != [6]int{1, 2, 3, 4, 5, 56} {
		t.Error("the kinds of cycles and IntAt are", got)
	}
}

func TestNewCpu(t *testing.T) {
	if c := impl.NewCpu(); c != (impl.Cpu{Sp: 255}) || !impl.CpuOK(c) {
		t.Error("NewCpu is", c)
	}
}

func TestRightCpus(t *testing.T) {
	for _, v := range []int{0, 1, 127, 128, 254, 255} {
		for _, name := range namesOfNumbers() {
			right := plainCpu()
			*numbersOf(&right)[name] = v
			if !impl.CpuOK(right) {
				t.Error("CpuOK is false of", name, v)
			}
		}
	}
	for bits := range 8 {
		c := plainCpu()
		c.Iff, c.Ei, c.Halt = bits&1 != 0, bits&2 != 0, bits&4 != 0
		if want := c.Iff || !c.Ei; impl.CpuOK(c) != want {
			t.Error("CpuOK of Iff", c.Iff, "Ei", c.Ei, "Halt", c.Halt, "is", !want)
		}
	}
	if !impl.CpuOK(impl.Cpu{}) {
		t.Error("CpuOK is false of zero")
	}
}

// wantNoStep asks all calls that take a processor and a memory for ErrBad, with all else zero.
func wantNoStep(t *testing.T, name string, c impl.Cpu, m impl.Memory, in int) {
	t.Helper()
	if x, n, list, code := impl.StepCpu(c, m, in); x != (impl.Cpu{}) || !reflect.DeepEqual(n, impl.Memory{}) || len(list) != 0 || code != impl.ErrBad {
		t.Error(name, "StepCpu is", x, short(n), list, code)
	}
	if x, n, list, code := impl.Interrupt(c, m); x != (impl.Cpu{}) || !reflect.DeepEqual(n, impl.Memory{}) || len(list) != 0 || code != impl.ErrBad {
		t.Error(name, "Interrupt is", x, short(n), list, code)
	}
	if port, yes, code := impl.PortWanted(c, m); port != 0 || yes || code != impl.ErrBad {
		t.Error(name, "PortWanted is", port, yes, code)
	}
}

func TestWrongCpus(t *testing.T) {
	for _, w := range wrongCpus() {
		if impl.CpuOK(w.c) {
			t.Error("CpuOK of a wrong", w.name, w.c)
		}
		wantNoStep(t, w.name, w.c, mixedMemory(), 0)
		wantNoStep(t, w.name, w.c, impl.Memory{}, 256)
		let := w.c
		let.Iff = true
		if !impl.CpuOK(let) {
			wantNoStep(t, w.name, let, mixedMemory(), 256)
		}
		for _, condition := range []int{math.MinInt, -1, 0, 7, 8, math.MaxInt} {
			if yes, code := impl.Holds(w.c, condition); yes || code != impl.ErrBad {
				t.Error(w.name, "Holds", condition, "is", yes, code)
			}
		}
	}
}

func TestWrongMemoriesOfAProcessor(t *testing.T) {
	halted, let, behindEi := plainCpu(), plainCpu(), plainCpu()
	halted.Halt = true
	let.Iff = true
	behindEi.Iff, behindEi.Ei = true, true
	for _, w := range wrongMemories() {
		for _, c := range []impl.Cpu{plainCpu(), halted, let, behindEi} {
			wantNoStep(t, w.name, c, w.m, 0)
			wantNoStep(t, w.name, c, w.m, 256)
			wantNoStep(t, w.name, c, w.m, -1)
		}
	}
}

// in is asked for even where nobody reads it.
func TestStepCpuOfInThatIsNoByte(t *testing.T) {
	halted := plainCpu()
	halted.Halt = true
	for _, first := range []int{0, 136, 144, 255} {
		m := mixedMemory()
		m.Ram[0][8] = first
		for _, c := range []impl.Cpu{plainCpu(), halted} {
			for _, in := range noBytes() {
				if x, n, list, code := impl.StepCpu(c, m, in); x != (impl.Cpu{}) || !reflect.DeepEqual(n, impl.Memory{}) || len(list) != 0 || code != impl.ErrRange {
					t.Error("StepCpu with in", in, "is", x, short(n), list, code)
				}
			}
			for _, in := range []int{0, 255} {
				if _, _, _, code := impl.StepCpu(c, m, in); code != impl.OK {
					t.Error("StepCpu with in", in, "is", code)
				}
			}
		}
	}
}

func TestHoldsOfEachFlag(t *testing.T) {
	letters := "ZZCCPPS"
	for f := range 256 {
		c := plainCpu()
		c.F = f
		for condition := range 8 {
			want := true
			switch {
			case condition < 6:
				want = (f&flagsOfLetters(letters[condition:condition+1]) != 0) == (condition%2 == 1)
			case condition == 6:
				want = f >= 128
			}
			if yes, code := impl.Holds(c, condition); yes != want || code != impl.OK {
				t.Error("Holds", condition, "with", lettersOf(f), "is", yes, code)
			}
		}
	}
}

func TestHoldsRows(t *testing.T) {
	for _, r := range []struct {
		letters string
		holding string
	}{
		{"", "0247"}, {"Z", "1247"}, {"C", "0347"}, {"P", "0257"}, {"S", "02467"}, {"5H3N", "0247"}, {"SZ5H3PNC", "13567"},
	} {
		c := plainCpu()
		c.F = flagsOfLetters(r.letters)
		got := ""
		for condition := range 8 {
			if yes, _ := impl.Holds(c, condition); yes {
				got += string(rune('0' + condition))
			}
		}
		if got != r.holding {
			t.Error("with", r.letters, "hold", got)
		}
	}
}

func TestHoldsOfNoCondition(t *testing.T) {
	for _, condition := range []int{math.MinInt, -8, -1, 8, 9, 15, 256, 1 << 32, math.MaxInt} {
		c := plainCpu()
		c.F = 255
		if yes, code := impl.Holds(c, condition); yes || code != impl.ErrRange {
			t.Error("Holds", condition, "is", yes, code)
		}
	}
}

func TestLengthOfEachKind(t *testing.T) {
	for i, want := range []int{4, 3, 3, 4, 4} {
		if n, code := impl.LengthOf(i + 1); n != want || code != impl.OK {
			t.Error("LengthOf", i+1, "is", n, code)
		}
	}
	for _, kind := range []int{math.MinInt, -5, -1, 0, 6, 7, 1 << 32, math.MaxInt} {
		if n, code := impl.LengthOf(kind); n != 0 || code != impl.ErrRange {
			t.Error("LengthOf", kind, "is", n, code)
		}
	}
}

// Every first byte is asked for at the ends of the address room and of its quarters, where the second byte stands in another quarter, or at 0.
func TestPortWantedOfEachByte(t *testing.T) {
	for _, pc := range []int{0, 62, 63, 64, 127, 128, 191, 192, 200, 254, 255} {
		for first := range 256 {
			for _, port := range []int{0, 1, 136, 254, 255} {
				m := mixedMemory()
				c := plainCpu()
				c.Pc = pc
				*cellAt(m, pc) = first
				*cellAt(m, (pc+1)%256) = port
				wanted, wantedPort := first/8 == 17, 0
				if wanted {
					wantedPort = port
				}
				if got, yes, code := impl.PortWanted(c, m); got != wantedPort || yes != wanted || code != impl.OK {
					t.Error("PortWanted of", first, port, "at", pc, "is", got, yes, code)
				}
				c.Halt = true
				if got, yes, code := impl.PortWanted(c, m); got != 0 || yes || code != impl.OK {
					t.Error("PortWanted of", first, port, "at", pc, "halted, is", got, yes, code)
				}
			}
		}
	}
}

func TestPortWantedOfEachPage(t *testing.T) {
	for page := range 4 {
		m := paged(mixedMemory(), page, 1, page%2 == 0)
		m.Ram[page][8], m.Ram[page][9] = 143, 91
		for _, iff := range []bool{false, true} {
			c := plainCpu()
			c.Iff, c.Ei = iff, iff
			if port, yes, code := impl.PortWanted(c, m); port != 91 || !yes || code != impl.OK {
				t.Error("PortWanted with Page", page, "is", port, yes, code)
			}
		}
	}
}
