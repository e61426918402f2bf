package tests

import (
	"fmt"
	"math"
	"testing"

	"loop.example/g00644/impl"
)

// cpuTextWritten is the chapter's sentence, number by number.
func cpuTextWritten(c impl.Cpu) string {
	r := c.Regs
	s := fmt.Sprintf("b%02x c%02x d%02x e%02x h%02x l%02x a%02x f%02x sp%02x pc%02x", r[0], r[1], r[2], r[3], r[4], r[5], r[7], c.F, c.Sp, c.Pc)
	if c.Iff {
		s += " ei"
	}
	if c.Halt {
		s += " halt"
	}
	return s
}

func checkCpuText(t *testing.T, c impl.Cpu, want string) {
	t.Helper()
	if s, code := impl.CpuText(c); s != want || code != impl.OK {
		t.Fatalf("CpuText of %+v is %q %d, not %q", c, s, code, want)
	}
}

func TestCpuTextByHand(t *testing.T) {
	like := impl.Cpu{Regs: [8]int{0, 1, 2, 3, 64, 5, 0, 7}, Sp: 255, Pc: 56}
	checkCpuText(t, like, "b00 c01 d02 e03 h40 l05 a07 f00 spff pc38")
	checkCpuText(t, impl.Cpu{}, "b00 c00 d00 e00 h00 l00 a00 f00 sp00 pc00")
	checkCpuText(t, impl.NewCpu(), "b00 c00 d00 e00 h00 l00 a00 f00 spff pc00")
	full := impl.Cpu{Regs: [8]int{255, 254, 171, 205, 16, 15, 0, 160}, F: 239, Sp: 10, Pc: 128, Iff: true, Ei: true, Halt: true}
	checkCpuText(t, full, "bff cfe dab ecd h10 l0f aa0 fef sp0a pc80 ei halt")
}

// Each number has a place of its own: in each of them each byte, with all others unlike.
func TestCpuTextOfEachByte(t *testing.T) {
	for _, from := range []impl.Cpu{{}, plainCpu()} {
		for _, name := range namesOfNumbers() {
			for v := range 256 {
				c := from
				*numbersOf(&c)[name] = v
				checkCpuText(t, c, cpuTextWritten(c))
			}
		}
	}
}

func TestCpuTextOfEachSwitch(t *testing.T) {
	tails := map[[3]bool]string{
		{false, false, false}: "", {false, false, true}: " halt",
		{true, false, false}: " ei", {true, false, true}: " ei halt",
		{true, true, false}: " ei", {true, true, true}: " ei halt",
	}
	for switches, tail := range tails {
		c := plainCpu()
		c.Iff, c.Ei, c.Halt = switches[0], switches[1], switches[2]
		checkCpuText(t, c, "b10 c21 d82 e31 h64 l42 a4d f00 spaa pcc8"+tail)
	}
}

func TestCpuTextOfMixedOnes(t *testing.T) {
	l := lot(1500)
	for range 3000 {
		c := l.someCpu()
		c.Halt = l.below(2) == 0
		checkCpuText(t, c, cpuTextWritten(c))
	}
}

func TestCpuTextOfWrongOnes(t *testing.T) {
	list := wrongCpus()
	for _, name := range namesOfNumbers() {
		for _, v := range farNumbers(0, 255) {
			for _, iff := range []bool{false, true} {
				c := plainCpu()
				c.Iff = iff
				*numbersOf(&c)[name] = v
				list = append(list, namedCpu{name, c})
			}
		}
	}
	for _, v := range append(farNumbers(0, 255), -1, 1, 15, 16, 255) {
		c := plainCpu()
		c.Regs[6] = v
		list = append(list, namedCpu{"register 6", c})
	}
	for _, w := range list {
		if s, code := impl.CpuText(w.c); s != "" || code != impl.ErrBad {
			t.Errorf("CpuText of a wrong %s is %q %d", w.name, s, code)
		}
	}
}

// eventWords stand at their kinds.
func eventWords() []string { return []string{"", "border", "beep", "psg", "in", "int"} }

func checkEventText(t *testing.T, e impl.Event, want string) {
	t.Helper()
	if s, code := impl.EventText(e); s != want || code != impl.OK {
		t.Errorf("EventText of %v is %q %d, not %q", e, s, code, want)
	}
}

func checkNoEventText(t *testing.T, e impl.Event) {
	t.Helper()
	if s, code := impl.EventText(e); s != "" || code != impl.ErrBad {
		t.Errorf("EventText of %v is %q %d", e, s, code)
	}
}

func TestEventTextByHand(t *testing.T) {
	checkEventText(t, event(12, impl.EvBorder, 3), "12 border 3")
	checkEventText(t, event(640, impl.EvBeep, 1), "640 beep 1")
	checkEventText(t, event(0, impl.EvPsg, 255), "0 psg 255")
	checkEventText(t, event(739, impl.EvIn, 0), "739 in 0")
	checkEventText(t, event(7, impl.EvInt, 100), "7 int 100")
}

func TestEventTextOfEach(t *testing.T) {
	for kind := 1; kind <= 5; kind++ {
		for v := range 256 {
			for _, at := range []int{0, 1, 9, 10, 99, 100, 639, 640, 738, 739} {
				checkEventText(t, event(at, kind, v), fmt.Sprintf("%d %s %d", at, eventWords()[kind], v))
			}
		}
		for at := range 740 {
			checkEventText(t, event(at, kind, 17), fmt.Sprintf("%d %s 17", at, eventWords()[kind]))
		}
	}
}

func TestEventTextOfWrongOnes(t *testing.T) {
	checkNoEventText(t, impl.Event{})
	for kind := 1; kind <= 5; kind++ {
		for _, v := range farNumbers(0, 739) {
			checkNoEventText(t, event(v, kind, 0))
			checkNoEventText(t, event(v, kind, 255))
		}
		for _, v := range farNumbers(0, 255) {
			checkNoEventText(t, event(0, kind, v))
			checkNoEventText(t, event(739, kind, v))
		}
	}
	for _, kind := range farNumbers(1, 5) {
		for _, at := range []int{0, 300, 739} {
			checkNoEventText(t, event(at, kind, 0))
			checkNoEventText(t, event(at, kind, 255))
		}
	}
	checkNoEventText(t, event(740, 6, 256))
	checkNoEventText(t, event(math.MinInt, math.MinInt, math.MinInt))
}

// What is no event by itself is none in a list either, and the other way round.
func TestEventTextIsOfWhatAMachineMayHave(t *testing.T) {
	for _, at := range []int{-1, 0, 739, 740} {
		for kind := -1; kind <= 7; kind++ {
			for _, v := range []int{-1, 0, 255, 256} {
				m := plainMachine()
				m.Events = []impl.Event{event(at, kind, v)}
				_, code := impl.EventText(m.Events[0])
				if (code == impl.OK) != impl.MachineOK(m) {
					t.Error("of", m.Events, "MachineOK is", impl.MachineOK(m), "and EventText", code)
				}
			}
		}
	}
}
