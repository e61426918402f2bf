package tests

import (
	"fmt"
	"slices"
	"strconv"
	"strings"
	"testing"

	"loop.example/g00644/impl"
)

// instrTextWritten goes by the document's line.
func instrTextWritten(x impl.Instr) string {
	if x.Op == 23 {
		return "db " + strconv.Itoa(x.N)
	}
	return strings.NewReplacer("A", strconv.Itoa(x.A), "B", strconv.Itoa(x.B), "N", strconv.Itoa(x.N)).Replace(documented()[x.Op])
}

// listWritten is the chapter's sentence: of a list with a nought behind its end.
func listWritten(bytes []int) []string {
	var list []string
	wide := append(slices.Clone(bytes), 0)
	for at := 0; at < len(bytes); {
		x := decodedPair(wide[at], wide[at+1])
		list = append(list, fmt.Sprintf("%02x %s", at, instrTextWritten(x)))
		at += x.Len
	}
	return list
}

func checkList(t *testing.T, bytes []int, want []string) {
	t.Helper()
	if list, code := impl.ListCode(bytes); !slices.Equal(list, want) || code != impl.OK {
		t.Fatalf("ListCode of %s is %q %d, not %q", short(bytes), list, code, want)
	}
}

func checkNoList(t *testing.T, bytes []int, want int) {
	t.Helper()
	if list, code := impl.ListCode(bytes); len(list) != 0 || code != want {
		t.Fatalf("ListCode of %s is %s %d, not %d", short(bytes), short(list), code, want)
	}
}

// bytesOfLines are those of instructions, one behind the other.
func bytesOfLines(lines ...string) []int {
	var list []int
	for _, line := range lines {
		x, _ := impl.ReadInstr(line)
		bytes, code := impl.Encode(x)
		if code != impl.OK {
			panic(line)
		}
		list = append(list, bytes...)
	}
	return list
}

func TestListCodeByHand(t *testing.T) {
	checkList(t, nil, nil)
	checkList(t, []int{}, nil)
	checkList(t, []int{0}, []string{"00 nop"})
	checkList(t, bytesOfLines("ei", "halt", "inc 0", "ld 7 0", "out 0", "jp 7 0"), []string{"00 ei", "01 halt", "02 inc 0", "03 ld 7 0", "05 out 0", "07 jp 7 0"})
	checkList(t, bytesOfLines("ldn 4 64", "inc 6", "db 200", "ret 7", "in 254", "push 6"), []string{"00 ldn 4 64", "02 inc 6", "03 db 200", "04 ret 7", "05 in 254", "07 push 6"})
}

func TestListCodeOfEachByteAlone(t *testing.T) {
	for v := range 256 {
		checkList(t, []int{v}, []string{"00 " + instrTextWritten(decodedPair(v, 0))})
	}
}

// Of a pair the second byte is one of the first, or an instruction of its own.
func TestListCodeOfEachPair(t *testing.T) {
	for first := range 256 {
		for second := range 256 {
			x := decodedPair(first, second)
			want := []string{"00 " + instrTextWritten(x)}
			if x.Len == 1 {
				want = append(want, "01 "+instrTextWritten(decodedPair(second, 0)))
			}
			checkList(t, []int{first, second}, want)
		}
	}
}

// Of an instruction of two bytes whose second one is behind the end, whatever stands ahead of it and behind the list.
func TestListCodeOfASecondByteBehindTheEnd(t *testing.T) {
	for _, ahead := range [][]int{nil, {0}, {8, 255}, {255, 255, 255}, slices.Repeat([]int{160}, 255)} {
		for v := range 256 {
			for _, behind := range []int{0, 1, 255, -1, 256} {
				room := append(slices.Clone(ahead), v, behind)
				bytes := room[:len(room)-1]
				list, code := impl.ListCode(bytes)
				want := fmt.Sprintf("%02x ", len(ahead)) + instrTextWritten(decodedPair(v, 0))
				if code != impl.OK || len(list) == 0 || list[len(list)-1] != want {
					t.Fatalf("ListCode of %s ends with %s %d, not %q", short(bytes), short(list), code, want)
				}
			}
		}
	}
}

// Where an instruction stands is told of each place that there is.
func TestListCodeOfEachPlace(t *testing.T) {
	for n := range 257 {
		var want []string
		for at := range n {
			want = append(want, fmt.Sprintf("%02x nop", at))
		}
		checkList(t, make([]int, n), want)
	}
	for n := range 257 {
		bytes := slices.Repeat([]int{8, 6}, 128)[:n]
		var want []string
		for at := 0; at < n; at += 2 {
			want = append(want, fmt.Sprintf("%02x ld 0 6", at))
		}
		if n%2 == 1 {
			want[len(want)-1] = fmt.Sprintf("%02x ld 0 0", n-1)
		}
		checkList(t, bytes, want)
	}
}

func (l *lot) someCode(n int) []int {
	bytes := make([]int, n)
	for i := range bytes {
		bytes[i] = l.below(256)
	}
	return bytes
}

func TestListCodeOfMixedBytes(t *testing.T) {
	l := lot(1530)
	for n := range 257 {
		for range 12 {
			bytes := l.someCode(n)
			checkList(t, bytes, listWritten(bytes))
		}
	}
	for _, r := range sampleInstrs() {
		for _, ahead := range [][]int{nil, l.someCode(1), l.someCode(7), l.someCode(60)} {
			bytes := append(append(ahead, r.bytes...), l.below(256))
			checkList(t, bytes, listWritten(bytes))
		}
	}
}

func TestListCodeOfEachProgram(t *testing.T) {
	for _, name := range namesOfPrograms() {
		bytes := cellsOf(programs()[name])
		checkList(t, bytes, listWritten(bytes))
		checkList(t, bytes[:16], listWritten(bytes[:16]))
	}
}

// ErrLong comes ahead of ErrSize, and this one ahead of ErrRange.
func TestListCodeOfLongLists(t *testing.T) {
	for _, v := range []int{0, 8, 255, -1, 256} {
		for n, want := range map[int]int{255: 0, 256: 0, 257: impl.ErrSize, 258: impl.ErrSize, 512: impl.ErrSize, impl.MaxList - 1: impl.ErrSize, impl.MaxList: impl.ErrSize, impl.MaxList + 1: impl.ErrLong, impl.MaxList + 2: impl.ErrLong, impl.MaxText: impl.ErrLong, impl.MaxText + 1: impl.ErrLong} {
			bytes := slices.Repeat([]int{v}, n)
			switch {
			case want != 0:
				checkNoList(t, bytes, want)
			case v < 0 || v > 255:
				checkNoList(t, bytes, impl.ErrRange)
			default:
				checkList(t, bytes, listWritten(bytes))
			}
		}
	}
}

func TestListCodeOfWhatIsNoByte(t *testing.T) {
	l := lot(1531)
	far := farNumbers(0, 255)
	for _, v := range far {
		for n := 1; n <= 20; n++ {
			for at := range n {
				bytes := l.someCode(n)
				bytes[at] = v
				checkNoList(t, bytes, impl.ErrRange)
			}
		}
	}
	for _, n := range []int{255, 256} {
		for at := range n {
			for _, v := range []int{-1, 256, far[at%len(far)]} {
				bytes := l.someCode(n)
				bytes[at] = v
				checkNoList(t, bytes, impl.ErrRange)
			}
		}
	}
	for _, n := range []int{257, impl.MaxList} {
		for _, at := range []int{0, 1, 255, 256, n - 1} {
			bytes := l.someCode(n)
			bytes[at] = 256
			checkNoList(t, bytes, impl.ErrSize)
		}
	}
}

// A number that no instruction has a use for must still be a byte: the second one of what has a length of one is the first of the next.
func TestListCodeOfWhatIsNoByteBehindEachFirst(t *testing.T) {
	for first := range 256 {
		for _, v := range []int{-1, 256} {
			checkNoList(t, []int{first, v}, impl.ErrRange)
			checkNoList(t, []int{v, first}, impl.ErrRange)
		}
	}
}
