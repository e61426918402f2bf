package tests

import (
	"slices"
	"testing"

	"loop.example/g00644/impl"
)

// told is which cells a step's cycles tell as read ahead of their being written, and what is in the memory if just what they tell is written.
func told(t *testing.T, m impl.Memory, list []impl.Cycle) (map[*int]bool, impl.Memory) {
	t.Helper()
	seen, after := map[*int]bool{}, copyOf(m)
	for _, cycle := range list {
		switch cycle.Kind {
		case impl.CyFetch, impl.CyRead:
			if v := *cellAt(after, cycle.Address); v != cycle.Value {
				t.Fatal("a cycle tells", cycle, "where stands", v)
			}
			seen[cellAt(m, cycle.Address)] = true
		case impl.CyWrite:
			after, _ = impl.PokeAt(after, cycle.Address, cycle.Value)
		}
	}
	return seen, after
}

// otherwise changes all cells but those that are seen.
func otherwise(m impl.Memory, seen map[*int]bool) impl.Memory {
	out := copyOf(m)
	for place := range out.Rom {
		if !seen[&m.Rom[place]] {
			out.Rom[place] ^= 85
		}
	}
	for bank := range out.Ram {
		for place := range out.Ram[bank] {
			if !seen[&m.Ram[bank][place]] {
				out.Ram[bank][place] ^= 85
			}
		}
	}
	return out
}

// What the cycles tell as written is all that is written; and where all that they do not tell as read is another, the step is the same.
func checkTold(t *testing.T, c impl.Cpu, m impl.Memory, in int) {
	t.Helper()
	x, n, list, code := impl.StepCpu(c, m, in)
	seen, after := told(t, m, list)
	if code != impl.OK || !sameCells(n, after) {
		t.Fatal("a step of", c, "wrote what its cycles do not tell:", list, code)
	}
	otherIn := 255 - in
	if slices.ContainsFunc(list, func(cycle impl.Cycle) bool { return cycle.Kind == impl.CyIn }) {
		otherIn = in
	}
	m2 := otherwise(m, seen)
	x2, n2, list2, code2 := impl.StepCpu(c, m2, otherIn)
	_, after2 := told(t, m2, list2)
	if x2 != x || code2 != impl.OK || !slices.Equal(list2, list) || !sameCells(n2, after2) {
		t.Fatal("a step of", c, "read what its cycles do not tell:", list, list2)
	}
}

func TestPromise7CyclesTellAll(t *testing.T) {
	l := lot(7)
	for _, r := range sampleInstrs() {
		for range 20 {
			c := l.someCpu()
			c.Halt = l.below(10) == 0
			checkTold(t, c, placed(c, l.someMemory(), r.bytes...), l.someByte())
		}
	}
}

// in is told with its port and what came in, out with its port and a, and no other instruction tells a port.
func TestPromise7CyclesTellPorts(t *testing.T) {
	l := lot(8)
	for _, r := range sampleInstrs() {
		for range 5 {
			c, in := l.someCpu(), l.someByte()
			_, _, list, _ := impl.StepCpu(c, placed(c, l.someMemory(), r.bytes...), in)
			var ports []impl.Cycle
			for _, cycle := range list {
				if cycle.Kind == impl.CyIn || cycle.Kind == impl.CyOut {
					ports = append(ports, cycle)
				}
			}
			var want []impl.Cycle
			switch r.x.Op {
			case impl.OpIn:
				want = cycles(impl.Cycle{Kind: impl.CyIn, Address: r.x.N, Value: in})
			case impl.OpOut:
				want = cycles(impl.Cycle{Kind: impl.CyOut, Address: r.x.N, Value: c.Regs[7]})
			}
			if !slices.Equal(ports, want) {
				t.Error(r.text, "tells of ports", ports)
			}
		}
	}
}

// The cycles of an instruction take the time that chapter 6 tells of it; what it tells has no push or pop of call and ret.
func TestPromise7CyclesTakeTheirTime(t *testing.T) {
	l := lot(9)
	for _, r := range rightInstrs() {
		c := l.someCpu()
		m := placed(c, l.someMemory(), r.bytes...)
		_, _, list, _ := impl.StepCpu(c, m, 0)
		want, _ := impl.TimeOf(r.x)
		if r.x.Op == impl.OpCall || r.x.Op == impl.OpBack {
			if goes, _ := impl.Holds(c, r.x.A); goes {
				want += 3
			}
		}
		got := 0
		for _, cycle := range list {
			n, code := impl.LengthOf(cycle.Kind)
			if code != impl.OK {
				t.Fatal(r.text, "has a cycle of no kind:", cycle)
			}
			got += n
		}
		if got != want {
			t.Error(r.text, "takes", got, "not", want, list)
		}
	}
}

// There and back: a call, then what brings it back; every number is what it was, but for Pc, which is behind the call.
func TestPromise7CallsComeBack(t *testing.T) {
	l := lot(10)
	for range 4000 {
		c, m, to, condition := l.someCpu(), l.someMemory(), l.someByte(), l.below(8)
		bank, place, _ := impl.WhereIs(m, (c.Sp+255)%256)
		if bank == -1 {
			continue
		}
		m = placed(c, m, 8*impl.OpCall+condition, to)
		*cellAt(m, to) = 8*impl.OpBack + condition
		if pushed := &m.Ram[bank][place]; pushed == cellAt(m, to) || *cellAt(m, c.Pc) != 8*impl.OpCall+condition || *cellAt(m, (c.Pc+1)%256) != to {
			continue // The call, or its way back, stands where something else is to stand.
		}
		want := c
		want.Pc, want.Ei = (c.Pc+2)%256, false
		x, n, _, _ := impl.StepCpu(c, m, 0)
		if goes, _ := impl.Holds(c, condition); goes {
			if x.Pc != to {
				t.Fatal("a call to", to, "goes to", x.Pc)
			}
			x, n, _, _ = impl.StepCpu(x, n, 0)
		}
		if x != want {
			t.Fatal("a call of", c, "to", to, "comes back as", x)
		}
		if goes, _ := impl.Holds(c, condition); goes {
			m.Ram[bank][place] = want.Pc
		}
		if !sameCells(n, m) {
			t.Fatal("a call of", c, "to", to, "leaves more than where it came from")
		}
	}
}

// Calls within calls come back in the other order, also where Sp goes round.
func TestPromise7CallsWithinCalls(t *testing.T) {
	for depth := 1; depth <= 20; depth++ {
		for _, sp := range []int{0, 180, 255} {
			m := filled(func(bank, place int) int { return 0 })
			for i := range depth {
				at := 64 + 3*i
				*cellAt(m, at), *cellAt(m, at+1), *cellAt(m, at+2) = 111, at+3, 119
			}
			*cellAt(m, 64+3*depth) = 119
			c := impl.NewCpu()
			c.Pc, c.Sp = 64, sp
			want := c
			want.Pc = 66
			for range 2 * depth {
				c, m, _, _ = impl.StepCpu(c, m, 0)
			}
			if c != want {
				t.Error(depth, "calls within each other come back as", c)
			}
		}
	}
}

func TestPromise7InterruptsThatAreLet(t *testing.T) {
	l := lot(11)
	for range 3000 {
		c, m := l.someCpu(), l.someMemory()
		c.Halt = l.below(3) == 0
		x, n, list, code := impl.Interrupt(c, m)
		if !c.Iff || c.Ei {
			if x != c || !sameCells(n, m) || len(list) != 0 || code != impl.ErrHalt {
				t.Fatal("an interrupt comes that is not let:", c, x, list, code)
			}
			continue
		}
		_, after := told(t, m, list)
		if code != impl.OK || x.Pc != 56 || x.Iff || x.Halt || !sameCells(n, after) {
			t.Fatal("an interrupt of", c, "is", x, list, code)
		}
		if _, _, _, code := impl.Interrupt(x, n); code != impl.ErrHalt {
			t.Fatal("an interrupt comes behind another one:", code)
		}
		bank, _, _ := impl.WhereIs(m, x.Sp)
		if bank == -1 {
			continue
		}
		n.Rom[56] = 119
		back, _, _, _ := impl.StepCpu(x, n, 0)
		want := c
		want.Iff, want.Halt = false, false
		if back != want {
			t.Fatal("an interrupt of", c, "comes back as", back)
		}
	}
}

// Behind ei an interrupt is let only when one more instruction is done, and behind di not at all.
func TestPromise7InterruptsBehindEi(t *testing.T) {
	for _, r := range sampleInstrs() {
		c := plainCpu()
		m := filled(func(bank, place int) int { return 0 })
		*cellAt(m, 200) = 8 * impl.OpEi
		for i, v := range r.bytes {
			*cellAt(m, 201+i) = v
		}
		c, m, _, _ = impl.StepCpu(c, m, 0)
		if _, _, _, code := impl.Interrupt(c, m); code != impl.ErrHalt {
			t.Fatal("just behind ei an interrupt is", code)
		}
		c, m, _, _ = impl.StepCpu(c, m, 0)
		want := impl.OK
		if r.x.Op == impl.OpEi || r.x.Op == impl.OpDi {
			want = impl.ErrHalt
		}
		if _, _, _, code := impl.Interrupt(c, m); code != want {
			t.Error("behind ei and", r.text, "an interrupt is", code)
		}
	}
}
