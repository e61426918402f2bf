package tests

import (
	"fmt"
	"reflect"
	"slices"
	"strings"
	"testing"

	"loop.example/g00644/impl"
)

func cellAt(m impl.Memory, address int) *int {
	switch {
	case address < 64:
		return &m.Rom[address]
	case address < 128:
		return &m.Ram[1][address-64]
	case address < 192:
		return &m.Ram[2][address-128]
	}
	return &m.Ram[m.Page][address-192]
}

// A bench steps as the document's sentences tell it, one behind the other. It leaves sums and turns to the calls of the unit, which have tests of their own.
type bench struct {
	c    impl.Cpu
	m    impl.Memory
	list []impl.Cycle
}

func newBench(c impl.Cpu, m impl.Memory) *bench { return &bench{c: c, m: copyOf(m)} }

func (b *bench) note(kind, address, v int) int {
	b.list = append(b.list, impl.Cycle{Kind: kind, Address: address, Value: v})
	return v
}

func (b *bench) read(address int) int { return b.note(2, address, *cellAt(b.m, address)) }

func (b *bench) write(address, v int) {
	if b.note(3, address, v); address >= 64 {
		*cellAt(b.m, address) = v
	}
}

func (b *bench) next() { b.c.Pc = (b.c.Pc + 1) % 256 }

func (b *bench) push(v int) {
	b.c.Sp = (b.c.Sp + 255) % 256
	b.write(b.c.Sp, v)
}

func (b *bench) pop() int {
	v := b.read(b.c.Sp)
	b.c.Sp = (b.c.Sp + 1) % 256
	return v
}

func (b *bench) get(register int) int {
	if register == 6 {
		return b.read(b.c.Regs[4])
	}
	return b.c.Regs[register]
}

func (b *bench) set(register, v int) {
	if register == 6 {
		b.write(b.c.Regs[4], v)
	} else {
		b.c.Regs[register] = v
	}
}

func (b *bench) goes(condition int) bool {
	f := lettersOf(b.c.F)
	return []bool{
		!strings.Contains(f, "Z"), strings.Contains(f, "Z"), !strings.Contains(f, "C"), strings.Contains(f, "C"),
		!strings.Contains(f, "P"), strings.Contains(f, "P"), strings.Contains(f, "S"), true,
	}[condition]
}

func (b *bench) alu(kind, v int) {
	c := &b.c
	a, carry := c.Regs[7], c.F%2
	switch kind {
	case 0:
		c.Regs[7], c.F, _ = impl.Add8(a, v, 0)
	case 1:
		c.Regs[7], c.F, _ = impl.Add8(a, v, carry)
	case 2:
		c.Regs[7], c.F, _ = impl.Sub8(a, v, 0)
	case 3:
		c.Regs[7], c.F, _ = impl.Sub8(a, v, carry)
	case 4, 5, 6:
		c.Regs[7], c.F, _ = impl.Logic8(kind-4, a, v)
	case 7:
		_, c.F, _ = impl.Sub8(a, v, 0)
		c.F += v&32 - c.F&32 + v&8 - c.F&8
	}
}

func (b *bench) ldi() {
	c := &b.c
	v := b.read(c.Regs[4])
	b.write(c.Regs[2], v)
	c.Regs[4], c.Regs[2], c.Regs[0] = (c.Regs[4]+1)%256, (c.Regs[2]+1)%256, (c.Regs[0]+255)%256
	sum := v + c.Regs[7]
	c.F = c.F&128 + c.F&64 + c.F&1 + on(c.Regs[0] != 0, "P") + on(sum>>3%2 == 1, "3") + on(sum>>1%2 == 1, "5")
}

func (b *bench) step(in int) {
	c := &b.c
	c.Ei = false
	first := b.note(1, c.Pc, *cellAt(b.m, c.Pc))
	if c.Halt {
		return
	}
	b.next()
	x := decodedPair(first, 0)
	if x.Len == 2 {
		x = decodedPair(first, b.read(c.Pc))
		b.next()
	}
	if x.Op < 23 {
		b.do(strings.Fields(documented()[x.Op])[0], x, in)
	}
}

func (b *bench) do(word string, x impl.Instr, in int) {
	c := &b.c
	switch word {
	case "ld":
		b.set(x.A, b.get(x.B))
	case "ldn":
		b.set(x.A, x.N)
	case "lda":
		c.Regs[7] = b.read(x.N)
	case "sta":
		b.write(x.N, c.Regs[7])
	case "alu":
		b.alu(x.A, b.get(x.B))
	case "alun":
		b.alu(x.A, x.N)
	case "inc", "dec", "turn", "daa":
		b.change(word, x)
	case "bit":
		c.F, _ = impl.TestBit(x.A, b.get(x.B), c.F)
	case "jp", "call", "ret":
		if b.goes(x.A) {
			b.leave(word, x)
		}
	case "push", "pop":
		b.stack(word, x.A)
	case "in":
		c.Regs[7] = b.note(4, x.N, in)
		c.F = c.F%2 + ownFlags(in) + on(evenBits(in), "P")
	case "out":
		b.note(5, x.N, c.Regs[7])
	case "halt":
		c.Halt = true
	case "ei", "di":
		c.Iff, c.Ei = word == "ei", word == "ei"
	case "ldi":
		b.ldi()
	}
}

func (b *bench) change(word string, x impl.Instr) {
	register, v, f := x.A, 0, 0
	switch word {
	case "inc":
		v, f, _ = impl.Inc8(b.get(register), b.c.F)
	case "dec":
		v, f, _ = impl.Dec8(b.get(register), b.c.F)
	case "turn":
		register = x.B
		v, f, _ = impl.Turn8(x.A, b.get(register), b.c.F)
	case "daa":
		register = 7
		v, f, _ = impl.Daa8(b.c.Regs[7], b.c.F)
	}
	b.c.F = f
	b.set(register, v)
}

func (b *bench) leave(word string, x impl.Instr) {
	switch word {
	case "jp":
		b.c.Pc = x.N
	case "call":
		b.push(b.c.Pc)
		b.c.Pc = x.N
	case "ret":
		b.c.Pc = b.pop()
	}
}

func (b *bench) stack(word string, register int) {
	at := &b.c.Regs[register]
	if register == 6 {
		at = &b.c.F
	}
	if word == "push" {
		b.push(*at)
	} else {
		*at = b.pop()
	}
}

// checkStep holds a step against the bench's, and answers what it came to.
func checkStep(t *testing.T, c impl.Cpu, m impl.Memory, in int) (impl.Cpu, impl.Memory, []impl.Cycle) {
	t.Helper()
	b := newBench(c, m)
	b.step(in)
	x, n, list, code := impl.StepCpu(c, m, in)
	if x != b.c || code != impl.OK || !slices.Equal(list, b.list) || !sameCells(n, b.m) {
		t.Fatal("a step of", fmt.Sprintf("%+v", c), "Page", m.Page, "in", in, "\n is", fmt.Sprintf("%+v", x), list, code, "\nnot", fmt.Sprintf("%+v", b.c), b.list)
	}
	return x, n, list
}

// sameCells is DeepEqual, but faster, as memories are held against each other often.
func sameCells(a, b impl.Memory) bool {
	return slices.Equal(a.Rom, b.Rom) && slices.EqualFunc(a.Ram, b.Ram, slices.Equal[[]int]) && a.Page == b.Page && a.Screen == b.Screen && a.Locked == b.Locked
}

// A lot draws numbers that look mixed but are always the same.
type lot uint32

func (l *lot) below(n int) int {
	*l = *l*1664525 + 1013904223
	return int(*l>>8) % n
}

// someByte is often one at an end of something.
func (l *lot) someByte() int {
	ends := []int{0, 1, 2, 15, 16, 62, 63, 64, 65, 127, 128, 129, 191, 192, 193, 253, 254, 255}
	if l.below(2) == 0 {
		return ends[l.below(len(ends))]
	}
	return l.below(256)
}

func (l *lot) someCpu() impl.Cpu {
	var c impl.Cpu
	for i := range c.Regs {
		c.Regs[i] = l.someByte()
	}
	c.Regs[6] = 0
	c.F, c.Sp, c.Pc = l.below(256), l.someByte(), l.someByte()
	c.Iff = l.below(2) == 0
	c.Ei = c.Iff && l.below(2) == 0
	return c
}

func (l *lot) someMemory() impl.Memory {
	m := filled(func(bank, place int) int { return l.someByte() })
	return paged(m, l.below(4), 1+2*l.below(2), l.below(2) == 0)
}

func placed(c impl.Cpu, m impl.Memory, bytes ...int) impl.Memory {
	m = copyOf(m)
	for i, v := range bytes {
		*cellAt(m, (c.Pc+i)%256) = v
	}
	return m
}

func TestStepOfAllPairs(t *testing.T) {
	l := lot(1)
	for first := range 256 {
		c, m, in := l.someCpu(), l.someMemory(), l.someByte()
		plain := plainCpu()
		plain.F = l.below(256)
		for second := range 256 {
			checkStep(t, c, placed(c, m, first, second), in)
			checkStep(t, plain, placed(plain, m, first, second), in)
		}
	}
}

func TestStepWithAllFlags(t *testing.T) {
	l := lot(2)
	for _, r := range sampleInstrs() {
		c := l.someCpu()
		m := placed(c, l.someMemory(), r.bytes...)
		for f := range 256 {
			c.F = f
			checkStep(t, c, m, l.someByte())
		}
	}
}

func TestStepOfManyStates(t *testing.T) {
	l := lot(3)
	for _, r := range sampleInstrs() {
		for range 40 {
			m := l.someMemory()
			for range 4 {
				c := l.someCpu()
				checkStep(t, c, placed(c, m, r.bytes...), l.someByte())
			}
		}
	}
}

// Every byte is reckoned with by every instruction that reads or writes one.
func TestStepWithEachByte(t *testing.T) {
	l := lot(4)
	for _, r := range sampleInstrs() {
		c, m := l.someCpu(), l.someMemory()
		for v := range 256 {
			for i := range c.Regs {
				c.Regs[i] = (v + 37*i) % 256
			}
			c.Regs[6], c.Sp = 0, (v+100)%256
			checkStep(t, c, placed(c, m, r.bytes...), v)
		}
	}
}

// A run of many steps, with interrupts among them, has no step that hangs on more than its arguments.
func TestLongRuns(t *testing.T) {
	l := lot(5)
	for range 60 {
		c, m := l.someCpu(), l.someMemory()
		for range 300 {
			if l.below(8) == 0 {
				b := newBench(c, m)
				let := c.Iff && !c.Ei
				x, n, list, code := impl.Interrupt(c, m)
				if let {
					b.note(1, c.Pc, *cellAt(b.m, c.Pc))
					b.push(c.Pc)
					b.c.Pc, b.c.Iff, b.c.Halt = 56, false, false
				}
				if x != b.c || !reflect.DeepEqual(n, b.m) || !slices.Equal(list, b.list) || (code == impl.OK) != let || !let && code != impl.ErrHalt {
					t.Fatal("Interrupt of", c, "is", x, list, code)
				}
				c, m = x, n
			}
			c, m, _ = checkStep(t, c, m, l.someByte())
			if c.Halt && !c.Iff {
				c.Halt = false
			}
		}
	}
}
