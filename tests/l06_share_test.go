package tests

import (
	"reflect"
	"slices"
	"testing"

	"loop.example/g00644/impl"
)

type cpuAnswer struct {
	name string
	m    impl.Memory
	list []impl.Cycle
}

// cpuAnswers are what the calls answer that answer a memory and cycles, each of a call of its own.
func cpuAnswers(m impl.Memory) []cpuAnswer {
	var list []cpuAnswer
	for _, pc := range []int{0, 30, 63, 70, 140, 200, 255} {
		for bits := range 6 {
			c := plainCpu()
			c.Pc, c.Halt, c.Iff, c.Ei = pc, bits >= 3, bits%3 > 0, bits%3 > 1
			_, x, cycles, _ := impl.StepCpu(c, m, 3)
			list = append(list, cpuAnswer{"StepCpu", x, cycles})
			_, y, cycles, _ := impl.Interrupt(c, m)
			list = append(list, cpuAnswer{"Interrupt", y, cycles})
		}
	}
	return list
}

func scribbleCycles(list []impl.Cycle) {
	for i := range list[:cap(list)] {
		list[:cap(list)][i] = impl.Cycle{Kind: -5, Address: -5, Value: -5}
	}
}

func TestArgumentsOfCpuCallsStay(t *testing.T) {
	l := lot(6)
	for _, s := range settings() {
		m, rooms := roomy(s)
		want := copyOf(m)
		for range 50 {
			c := l.someCpu()
			impl.StepCpu(c, m, l.someByte())
			impl.StepCpu(c, m, 256)
			impl.Interrupt(c, m)
			impl.PortWanted(c, m)
			if !reflect.DeepEqual(m, want) {
				t.Fatal("of", c, "with Page", s.Page, "the memory that was handed in is changed")
			}
		}
		for _, room := range rooms {
			if tail := room[64:]; !slices.Equal(tail, []int{behindEnd, behindEnd, behindEnd}) {
				t.Fatal("behind the end stands", tail)
			}
		}
		if spare := m.Ram[:cap(m.Ram)][4:]; spare[0] != nil || spare[1] != nil || spare[2] != nil {
			t.Fatal("behind the last bank stands", short(spare))
		}
	}
}

func TestCpuAnswersShareNothingWithArguments(t *testing.T) {
	for _, s := range settings() {
		m, rooms := roomy(s)
		want := copyOf(m)
		for _, x := range cpuAnswers(m) {
			scribble(x.m)
			if !reflect.DeepEqual(m, want) || rooms[0][64] != behindEnd || rooms[4][66] != behindEnd {
				t.Fatal("what", x.name, "answers shares memory with its argument")
			}
		}
	}
}

func TestCpuAnswersShareNothingWithEachOther(t *testing.T) {
	m := settings()[0]
	first, second := cpuAnswers(m), cpuAnswers(m)
	want := cpuAnswers(m)
	for _, x := range first {
		scribble(x.m)
		scribbleCycles(x.list)
	}
	if later := cpuAnswers(m); !reflect.DeepEqual(second, want) || !reflect.DeepEqual(later, want) {
		t.Error("what is written into an answer is seen in another one")
	}
}

func TestListsOfACpuAnswerShareNothing(t *testing.T) {
	for _, m := range settings() {
		for _, x := range cpuAnswers(m) {
			lists := append([][]int{x.m.Rom}, x.m.Ram...)
			for i, cells := range lists {
				for k := range cells[:cap(cells)] {
					cells[:cap(cells)][k] = 1000 + i
				}
				for j, others := range lists {
					if j != i && slices.Contains(others, 1000+i) {
						t.Fatal("lists of an answer of", x.name, "share memory:", i, j)
					}
				}
			}
		}
	}
}

// A memory may come in whose banks are one list: a step writes to one of four all the same.
func TestStepOnBanksThatComeInAsOneList(t *testing.T) {
	one := make([]int, 64)
	one[0] = 22 // ldn 6 ..
	one[1] = 9
	m := impl.Memory{Rom: one, Ram: [][]int{one, one, one, one}, Screen: 1}
	c := impl.NewCpu()
	c.Pc, c.Regs[4], c.Iff = 64, 130, true
	_, n, _, code := impl.StepCpu(c, m, 0)
	want := copyOf(m)
	want.Ram[2][2] = 9
	if code != impl.OK || !reflect.DeepEqual(n, want) {
		t.Error("a step writes to more than one bank:", code, short(n))
	}
	_, n, _, code = impl.Interrupt(c, m)
	want = copyOf(m)
	want.Ram[0][62] = 64
	if code != impl.OK || !reflect.DeepEqual(n, want) {
		t.Error("an interrupt writes to more than one bank:", code, short(n))
	}
}
