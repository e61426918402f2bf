package tests

import (
	"reflect"
	"slices"
	"testing"

	"loop.example/g00644/impl"
)

const behindEnd = 77

// roomy is m with room behind the end of each of its lists, and the room itself, in which behindEnd stands.
func roomy(m impl.Memory) (impl.Memory, [][]int) {
	var rooms [][]int
	widened := func(cells []int) []int {
		room := append(append([]int(nil), cells...), behindEnd, behindEnd, behindEnd)
		rooms = append(rooms, room)
		return room[:len(cells)]
	}
	out := m
	out.Rom = widened(m.Rom)
	out.Ram = make([][]int, 0, len(m.Ram)+3)
	for _, cells := range m.Ram {
		out.Ram = append(out.Ram, widened(cells))
	}
	return out, rooms
}

// memoryAnswers are the memories that each call answers which answers one, each of a call of its own.
func memoryAnswers(m impl.Memory) []namedMemory {
	var list []namedMemory
	for _, address := range []int{0, 63, 64, 130, 192, 255} {
		x, _ := impl.PokeAt(m, address, 5)
		list = append(list, namedMemory{"PokeAt", x})
	}
	for _, v := range []int{0, 11, 32, 43} {
		x, _ := impl.PageTo(m, v)
		list = append(list, namedMemory{"PageTo", x})
	}
	x, _ := impl.NewMemory(longText(64))
	return append(list, namedMemory{"NewMemory", x})
}

// scribble writes to all that an answer holds, and behind the end of it where there is room.
func scribble(m impl.Memory) {
	lists := append([][]int{m.Rom}, m.Ram...)
	for _, cells := range lists {
		for i := range cells[:cap(cells)] {
			cells[:cap(cells)][i] = -5
		}
	}
	for i := range m.Ram[:cap(m.Ram)] {
		m.Ram[:cap(m.Ram)][i] = nil
	}
}

func TestArgumentsOfMemoryCallsStay(t *testing.T) {
	for _, s := range settings() {
		m, rooms := roomy(s)
		want := copyOf(m)
		for address := -1; address <= 256; address++ {
			impl.WhereIs(m, address)
			impl.PeekAt(m, address)
			impl.IsShared(m, address)
			impl.PokeAt(m, address, 3)
			impl.PageTo(m, address)
		}
		impl.MemoryOK(m)
		impl.SameMemory(m, m)
		if !reflect.DeepEqual(m, want) {
			t.Fatal("with Page", s.Page, "the memory that was handed in is changed")
		}
		for _, room := range rooms {
			if tail := room[64:]; !reflect.DeepEqual(tail, []int{behindEnd, behindEnd, behindEnd}) {
				t.Fatal("behind the end stands", tail)
			}
		}
		if spare := m.Ram[:cap(m.Ram)][4:]; spare[0] != nil || spare[1] != nil || spare[2] != nil {
			t.Fatal("behind the last bank stands", short(spare))
		}
	}
}

func TestAnswersShareNothingWithArguments(t *testing.T) {
	for _, s := range settings() {
		m, rooms := roomy(s)
		want := copyOf(m)
		for _, x := range memoryAnswers(m) {
			scribble(x.m)
			if !reflect.DeepEqual(m, want) || rooms[0][64] != behindEnd || rooms[4][66] != behindEnd {
				t.Fatal("what", x.name, "answers shares memory with its argument")
			}
		}
	}
}

func TestAnswersShareNothingWithEachOther(t *testing.T) {
	for _, m := range settings() {
		first, second := memoryAnswers(m), memoryAnswers(m)
		for i, x := range first {
			want := copyOf(second[i].m)
			scribble(x.m)
			for j := range first {
				if later := memoryAnswers(m)[j].m; !impl.MemoryOK(second[j].m) || !impl.MemoryOK(later) || j > i && !impl.MemoryOK(first[j].m) {
					t.Fatal("what", first[j].name, "answers shares memory with an answer of", x.name)
				}
			}
			if !reflect.DeepEqual(second[i].m, want) {
				t.Fatal("two answers of", x.name, "share memory")
			}
		}
	}
}

func TestListsOfOneAnswerShareNothing(t *testing.T) {
	for _, m := range settings() {
		for _, x := range memoryAnswers(m) {
			lists := append([][]int{x.m.Rom}, x.m.Ram...)
			for i, cells := range lists {
				wide := cells[:cap(cells)]
				for k := range wide {
					wide[k] = 1000 + i
				}
				for j, others := range lists {
					if j != i && slices.Contains(others, 1000+i) {
						t.Fatal("lists of an answer of", x.name, "share memory:", i, j)
					}
				}
			}
		}
	}
}

// A memory may come in whose banks are one list: they are four banks all the same.
func TestBanksThatComeInAsOneList(t *testing.T) {
	one := mixedMemory().Rom
	m := impl.Memory{Rom: one, Ram: [][]int{one, one, one, one}, Page: 3, Screen: 1}
	if !impl.MemoryOK(m) {
		t.Fatal("MemoryOK of banks that are one list")
	}
	x, code := impl.PokeAt(m, 70, 1)
	want := copyOf(m)
	want.Ram[1][6] = 1
	if code != impl.OK || !reflect.DeepEqual(x, want) {
		t.Error("PokeAt writes to more than one bank:", code)
	}
	y, _ := impl.PageTo(m, 0)
	y.Ram[0][0] = 1000
	if y.Rom[0] == 1000 || y.Ram[1][0] == 1000 || one[0] == 1000 {
		t.Error("PageTo answers banks that share memory")
	}
	z, _ := impl.PageTo(paged(m, 0, 1, true), 0)
	z.Ram[0][0] = 1000
	if z.Rom[0] == 1000 || z.Ram[1][0] == 1000 || one[0] == 1000 {
		t.Error("PageTo, locked, answers banks that share memory")
	}
}
