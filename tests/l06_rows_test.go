package tests

import (
	"fmt"
	"reflect"
	"slices"
	"testing"

	"loop.example/g00644/impl"
)

// stepRow is a step that is written out: the instruction's text, what is unlike plainCpu and unlike noughts ahead of it, and what is so behind it. Pc is behind the instruction, and the cycles of its own bytes come first, where nothing else is written.
type stepRow struct {
	text   string
	from   func(c *impl.Cpu)
	bytes  map[int]int
	in     int
	to     func(c *impl.Cpu)
	cycles []impl.Cycle
}

func read(address, v int) impl.Cycle  { return impl.Cycle{Kind: 2, Address: address, Value: v} }
func wrote(address, v int) impl.Cycle { return impl.Cycle{Kind: 3, Address: address, Value: v} }

func cycles(list ...impl.Cycle) []impl.Cycle { return list }

func flags(letters string) func(c *impl.Cpu) {
	return func(c *impl.Cpu) { c.F = flagsOfLetters(letters) }
}

// set is register by number; 8 is Sp, 9 Pc.
func set(register, v int, letters string) func(c *impl.Cpu) {
	return func(c *impl.Cpu) {
		c.F = flagsOfLetters(letters)
		switch register {
		case 8:
			c.Sp = v
		case 9:
			c.Pc = v
		default:
			c.Regs[register] = v
		}
	}
}

func movingRows() []stepRow {
	return []stepRow{
		{text: "nop"},
		{text: "nop", from: flags("SZ5H3PNC"), to: func(c *impl.Cpu) {}},
		{text: "ld 0 7", to: set(0, 77, "")},
		{text: "ld 7 0", to: set(7, 16, "")},
		{text: "ld 1 1"},
		{text: "ld 4 5", to: set(4, 66, "")},
		{text: "ld 6 7", cycles: cycles(wrote(100, 77))},
		{text: "ld 6 4", cycles: cycles(wrote(100, 100))},
		{text: "ld 3 6", bytes: map[int]int{100: 5}, to: set(3, 5, ""), cycles: cycles(read(100, 5))},
		{text: "ld 4 6", bytes: map[int]int{100: 5}, to: set(4, 5, ""), cycles: cycles(read(100, 5))},
		{text: "ld 6 6", bytes: map[int]int{100: 5}, cycles: cycles(read(100, 5), wrote(100, 5))},
		{text: "ldn 2 0", to: set(2, 0, "")},
		{text: "ldn 7 255", to: set(7, 255, "")},
		{text: "ldn 6 255", cycles: cycles(wrote(100, 255))},
		{text: "ldn 6 9", from: set(4, 63, ""), to: func(c *impl.Cpu) {}, cycles: cycles(wrote(63, 9))},
		{text: "lda 255", bytes: map[int]int{255: 8}, to: set(7, 8, ""), cycles: cycles(read(255, 8))},
		{text: "lda 0", to: set(7, 0, ""), cycles: cycles(read(0, 0))},
		{text: "lda 200", to: set(7, 24, ""), cycles: cycles(read(200, 24))},
		{text: "sta 64", cycles: cycles(wrote(64, 77))},
		{text: "sta 255", cycles: cycles(wrote(255, 77))},
		{text: "sta 0", cycles: cycles(wrote(0, 77))},
		{text: "push 0", to: set(8, 169, ""), cycles: cycles(wrote(169, 16))},
		{text: "push 4", to: set(8, 169, ""), cycles: cycles(wrote(169, 100))},
		{text: "push 7", to: set(8, 169, ""), cycles: cycles(wrote(169, 77))},
		{text: "push 6", from: flags("SZC"), to: set(8, 169, "SZC"), cycles: cycles(wrote(169, 193))},
		{text: "push 1", from: set(8, 0, ""), to: set(8, 255, ""), cycles: cycles(wrote(255, 33))},
		{text: "push 1", from: set(8, 64, ""), to: set(8, 63, ""), cycles: cycles(wrote(63, 33))},
		{text: "pop 5", bytes: map[int]int{170: 9}, to: func(c *impl.Cpu) { c.Regs[5], c.Sp = 9, 171 }, cycles: cycles(read(170, 9))},
		{text: "pop 6", bytes: map[int]int{170: 255}, to: set(8, 171, "SZ5H3PNC"), cycles: cycles(read(170, 255))},
		{text: "pop 0", from: set(8, 255, "Z"), bytes: map[int]int{255: 3}, to: func(c *impl.Cpu) { c.Regs[0], c.Sp = 3, 0 }, cycles: cycles(read(255, 3))},
		{text: "db 184"},
		{text: "db 255", from: flags("NC"), to: func(c *impl.Cpu) {}},
	}
}

func reckoningRows() []stepRow {
	return []stepRow{
		{text: "alu 0 0", from: flags("C"), to: set(7, 93, "3")},
		{text: "alu 1 0", from: flags("C"), to: set(7, 94, "3")},
		{text: "alu 2 0", from: flags("C"), to: set(7, 61, "53N")},
		{text: "alu 3 0", from: flags("C"), to: set(7, 60, "53N")},
		{text: "alu 4 1", to: set(7, 1, "H")},
		{text: "alu 5 7", to: set(7, 0, "ZP")},
		{text: "alu 6 1", to: set(7, 109, "53")},
		{text: "alu 7 0", from: flags("C"), to: set(7, 77, "N")},
		{text: "alu 7 7", to: set(7, 77, "Z3N")},
		{text: "alu 7 2", to: set(7, 77, "SPNC")},
		{text: "alu 0 6", bytes: map[int]int{100: 179}, to: set(7, 0, "ZHC"), cycles: cycles(read(100, 179))},
		{text: "alu 7 6", bytes: map[int]int{100: 40}, to: set(7, 77, "53N"), cycles: cycles(read(100, 40))},
		{text: "alun 0 255", to: set(7, 76, "H3C")},
		{text: "alun 1 178", from: flags("C"), to: set(7, 0, "ZHC")},
		{text: "alun 2 78", to: set(7, 255, "S5H3NC")},
		{text: "alun 3 76", from: flags("C"), to: set(7, 0, "ZN")},
		{text: "alun 4 0", from: flags("SC"), to: set(7, 0, "ZHP")},
		{text: "alun 5 255", to: set(7, 178, "S5P")},
		{text: "alun 6 0", to: set(7, 77, "3P")},
		{text: "alun 7 78", to: set(7, 77, "SH3NC")},
		{text: "alun 7 0", to: set(7, 77, "N")},
		{text: "inc 7", from: flags("C"), to: set(7, 78, "3C")},
		{text: "inc 4", to: set(4, 101, "5")},
		{text: "inc 6", bytes: map[int]int{100: 255}, to: flags("ZH"), cycles: cycles(read(100, 255), wrote(100, 0))},
		{text: "inc 6", from: set(4, 5, "C"), to: flags("C"), cycles: cycles(read(5, 0), wrote(5, 1))},
		{text: "dec 0", from: flags("C"), to: set(0, 15, "H3NC")},
		{text: "dec 6", bytes: map[int]int{100: 1}, to: flags("ZN"), cycles: cycles(read(100, 1), wrote(100, 0))},
		{text: "turn 0 2", to: set(2, 5, "PC")},
		{text: "turn 3 6", from: flags("C"), bytes: map[int]int{100: 2}, to: flags("SP"), cycles: cycles(read(100, 2), wrote(100, 129))},
		{text: "turn 7 7", to: set(7, 38, "5C")},
		{text: "bit 7 2", to: flags("SH")},
		{text: "bit 0 2", from: flags("C"), to: flags("ZHPC")},
		{text: "bit 5 6", bytes: map[int]int{100: 40}, to: flags("5H3"), cycles: cycles(read(100, 40))},
		{text: "daa", from: set(7, 154, ""), to: set(7, 0, "ZHPC")},
		{text: "ldi", from: flags("SZ5H3PNC"), bytes: map[int]int{100: 9}, to: func(c *impl.Cpu) {
			c.Regs[0], c.Regs[2], c.Regs[4], c.F = 15, 131, 101, flagsOfLetters("SZ5PC")
		}, cycles: cycles(read(100, 9), wrote(130, 9))},
		{text: "ldi", from: func(c *impl.Cpu) { c.Regs[0], c.Regs[2], c.Regs[4] = 1, 255, 255 }, bytes: map[int]int{255: 187}, to: func(c *impl.Cpu) {
			c.Regs[0], c.Regs[2], c.Regs[4], c.F = 0, 0, 0, flagsOfLetters("3")
		}, cycles: cycles(read(255, 187), wrote(255, 187))},
		{text: "ldi", from: func(c *impl.Cpu) { c.Regs[0], c.Regs[2] = 0, 63 }, bytes: map[int]int{100: 181}, to: func(c *impl.Cpu) {
			c.Regs[0], c.Regs[2], c.Regs[4], c.F = 255, 64, 101, flagsOfLetters("5P")
		}, cycles: cycles(read(100, 181), wrote(63, 181))},
	}
}

func goingRows() []stepRow {
	let := func(c *impl.Cpu) { c.Iff, c.Ei = true, true }
	return []stepRow{
		{text: "jp 0 0", to: set(9, 0, "")},
		{text: "jp 0 0", from: flags("Z"), to: flags("Z")},
		{text: "jp 1 255", from: flags("Z"), to: set(9, 255, "Z")},
		{text: "jp 1 255"},
		{text: "jp 2 9", to: set(9, 9, "")},
		{text: "jp 3 9"},
		{text: "jp 4 9", from: flags("P"), to: flags("P")},
		{text: "jp 5 9", from: flags("P"), to: set(9, 9, "P")},
		{text: "jp 6 9", from: flags("S"), to: set(9, 9, "S")},
		{text: "jp 6 9"},
		{text: "jp 7 200", from: flags("SZPC"), to: set(9, 200, "SZPC")},
		{text: "call 7 60", to: func(c *impl.Cpu) { c.Pc, c.Sp = 60, 169 }, cycles: cycles(wrote(169, 202))},
		{text: "call 3 60"},
		{text: "call 3 60", from: set(8, 0, "C"), to: func(c *impl.Cpu) { c.Pc, c.Sp = 60, 255 }, cycles: cycles(wrote(255, 202))},
		{text: "call 0 0", from: set(8, 10, ""), to: func(c *impl.Cpu) { c.Pc, c.Sp = 0, 9 }, cycles: cycles(wrote(9, 202))},
		{text: "ret 7", bytes: map[int]int{170: 99}, to: func(c *impl.Cpu) { c.Pc, c.Sp = 99, 171 }, cycles: cycles(read(170, 99))},
		{text: "ret 6", bytes: map[int]int{170: 99}},
		{text: "ret 2", from: set(8, 255, ""), bytes: map[int]int{255: 7}, to: func(c *impl.Cpu) { c.Pc, c.Sp = 7, 0 }, cycles: cycles(read(255, 7))},
		{text: "in 0", in: 0, from: flags("SZ5H3PNC"), to: set(7, 0, "ZPC"), cycles: cycles(impl.Cycle{Kind: 4})},
		{text: "in 254", in: 255, to: set(7, 255, "S53P"), cycles: cycles(impl.Cycle{Kind: 4, Address: 254, Value: 255})},
		{text: "in 255", in: 7, to: set(7, 7, ""), cycles: cycles(impl.Cycle{Kind: 4, Address: 255, Value: 7})},
		{text: "out 0", cycles: cycles(impl.Cycle{Kind: 5, Value: 77})},
		{text: "out 255", from: set(7, 0, "C"), in: 9, to: flags("C"), cycles: cycles(impl.Cycle{Kind: 5, Address: 255})},
		{text: "halt", to: func(c *impl.Cpu) { c.Halt = true }},
		{text: "halt", from: let, to: func(c *impl.Cpu) { c.Halt, c.Ei = true, false }},
		{text: "ei", to: let},
		{text: "ei", from: let, to: let},
		{text: "ei", from: func(c *impl.Cpu) { c.Iff = true }, to: let},
		{text: "di", from: let, to: func(c *impl.Cpu) { c.Iff, c.Ei = false, false }},
		{text: "di", from: func(c *impl.Cpu) { c.Iff = true }, to: func(c *impl.Cpu) { c.Iff = false }},
		{text: "di"},
		{text: "nop", from: let, to: func(c *impl.Cpu) { c.Ei = false }},
		{text: "db 200", from: let, to: func(c *impl.Cpu) { c.Ei = false }},
		{text: "jp 7 3", from: let, to: func(c *impl.Cpu) { c.Ei, c.Pc = false, 3 }},
	}
}

// begun are processor and memory ahead of the row's step.
func (r stepRow) begun(bytes []int) (impl.Cpu, impl.Memory) {
	c := plainCpu()
	if r.from != nil {
		r.from(&c)
	}
	m := filled(func(bank, place int) int { return 0 })
	for address, v := range r.bytes {
		*cellAt(m, address) = v
	}
	for i, v := range bytes {
		*cellAt(m, 200+i) = v
	}
	return c, m
}

func TestStepsWrittenOut(t *testing.T) {
	for i, r := range slices.Concat(movingRows(), reckoningRows(), goingRows()) {
		x, code := impl.ReadInstr(r.text)
		bytes, _ := impl.Encode(x)
		if code != impl.OK {
			t.Fatal("ReadInstr of", r.text, "is", code)
		}
		c, m := r.begun(bytes)
		wantCpu, wantMemory := c, copyOf(m)
		wantCpu.Pc = 200 + len(bytes)
		if r.to != nil {
			r.to(&wantCpu)
		}
		wantCycles := cycles(impl.Cycle{Kind: 1, Address: 200, Value: bytes[0]})
		if len(bytes) == 2 {
			wantCycles = append(wantCycles, read(201, bytes[1]))
		}
		wantCycles = append(wantCycles, r.cycles...)
		for _, cycle := range r.cycles {
			if cycle.Kind == 3 && cycle.Address >= 64 {
				*cellAt(wantMemory, cycle.Address) = cycle.Value
			}
		}
		got, memory, list, code := impl.StepCpu(c, m, r.in)
		if got != wantCpu || code != impl.OK || !slices.Equal(list, wantCycles) || !reflect.DeepEqual(memory, wantMemory) {
			t.Error("row", i, r.text, "from", fmt.Sprintf("%+v", c), "in", r.in, "\n is", fmt.Sprintf("%+v", got), list, code, "\nnot", fmt.Sprintf("%+v", wantCpu), wantCycles)
		}
	}
}

// Where an instruction stands at the end of the address room, its second byte stands at 0, and Pc goes on from there.
func TestPcGoesRound(t *testing.T) {
	for _, r := range []struct {
		pc     int
		bytes  []int
		behind int
	}{
		{255, []int{0}, 0}, {254, []int{0}, 255}, {255, []int{23, 9}, 1}, {254, []int{23, 9}, 0}, {253, []int{23, 9}, 255},
		{255, []int{255}, 0}, {63, []int{23, 9}, 65}, {62, []int{23, 9}, 64}, {127, []int{23, 9}, 129}, {191, []int{23, 9}, 193},
	} {
		c, m := plainCpu(), filled(func(bank, place int) int { return 0 })
		c.Pc = r.pc
		wantCycles := cycles(impl.Cycle{Kind: 1, Address: r.pc, Value: r.bytes[0]})
		for i, v := range r.bytes {
			*cellAt(m, (r.pc+i)%256) = v
			if i == 1 {
				wantCycles = append(wantCycles, read((r.pc+1)%256, v))
			}
		}
		want := c
		want.Pc = r.behind
		if len(r.bytes) == 2 {
			want.Regs[7] = 9
		}
		if got, _, list, code := impl.StepCpu(c, m, 0); got != want || !slices.Equal(list, wantCycles) || code != impl.OK {
			t.Error("StepCpu of", r.bytes, "at", r.pc, "is", got, list, code)
		}
	}
}

// A call at the end of the address room pushes where it comes back to, which is behind 255.
func TestCallAtTheEndPushesWhatIsBehind(t *testing.T) {
	for pc, want := range map[int]int{253: 255, 254: 0, 255: 1} {
		c, m := plainCpu(), filled(func(bank, place int) int { return 0 })
		c.Pc = pc
		*cellAt(m, pc) = 111
		*cellAt(m, (pc+1)%256) = 64
		got, n, _, code := impl.StepCpu(c, m, 0)
		if v, _ := impl.PeekAt(n, 169); v != want || got.Pc != 64 || got.Sp != 169 || code != impl.OK {
			t.Error("a call at", pc, "pushes", v, got, code)
		}
	}
}

func TestHaltedSteps(t *testing.T) {
	for bits := range 3 {
		for pc := range 256 {
			for first := 0; first < 256; first += 5 {
				c, m := plainCpu(), mixedMemory()
				c.Halt, c.Iff, c.Ei, c.Pc, c.F = true, bits > 0, bits > 1, pc, first
				*cellAt(m, pc) = first
				want := c
				want.Ei = false
				got, n, list, code := impl.StepCpu(c, m, first)
				if got != want || !reflect.DeepEqual(n, m) || code != impl.OK || !slices.Equal(list, cycles(impl.Cycle{Kind: 1, Address: pc, Value: first})) {
					t.Fatal("halted at", pc, "of", first, "a step is", got, list, code)
				}
			}
		}
	}
}

func TestInterruptsWrittenOut(t *testing.T) {
	for _, halted := range []bool{false, true} {
		for _, r := range []struct{ pc, sp, at int }{{200, 170, 169}, {0, 0, 255}, {255, 255, 254}, {56, 65, 64}, {130, 64, 63}, {3, 1, 0}} {
			c, m := plainCpu(), mixedMemory()
			c.Halt, c.Iff, c.Pc, c.Sp, c.F = halted, true, r.pc, r.sp, 255
			fetched := *cellAt(m, r.pc)
			wantCpu, wantMemory := c, copyOf(m)
			wantCpu.Halt, wantCpu.Iff, wantCpu.Pc, wantCpu.Sp = false, false, 56, r.at
			if r.at >= 64 {
				*cellAt(wantMemory, r.at) = r.pc
			}
			wantCycles := cycles(impl.Cycle{Kind: 1, Address: r.pc, Value: fetched}, wrote(r.at, r.pc))
			got, n, list, code := impl.Interrupt(c, m)
			if got != wantCpu || !reflect.DeepEqual(n, wantMemory) || !slices.Equal(list, wantCycles) || code != impl.OK {
				t.Error("Interrupt at", r.pc, "with Sp", r.sp, "is", got, list, code)
			}
		}
	}
}

func TestInterruptsThatAreNotLet(t *testing.T) {
	for _, halted := range []bool{false, true} {
		for _, behindEi := range []bool{false, true} {
			for _, m := range settings() {
				c := plainCpu()
				c.Halt, c.Iff, c.Ei = halted, behindEi, behindEi
				got, n, list, code := impl.Interrupt(c, m)
				if got != c || !reflect.DeepEqual(n, m) || len(list) != 0 || code != impl.ErrHalt {
					t.Error("Interrupt with Iff and Ei", behindEi, "is", got, list, code)
				}
			}
		}
	}
}
