package tests

import (
	"slices"
	"strings"
	"testing"
	"unsafe"

	"loop.example/g00644/impl"
)

// roomyTape is list with blocks behind its end, and all of it.
func roomyTape(list []impl.Block) (narrow, wide []impl.Block) {
	wide = append(slices.Clone(list), blockOf(91, 4), blockOf(92, 5))
	return wide[:len(list)], wide
}

// liesIn tells whether a part of inner stands in the memory of outer.
func liesIn(inner, outer string) bool {
	if inner == "" || outer == "" {
		return false
	}
	a, b := uintptr(unsafe.Pointer(unsafe.StringData(inner))), uintptr(unsafe.Pointer(unsafe.StringData(outer)))
	return a < b+uintptr(len(outer)) && b < a+uintptr(len(inner))
}

func TestListsOfBlocksStay(t *testing.T) {
	for n := range impl.MaxBlocks + 3 {
		for _, wrong := range []int{-1, 0, n - 1} {
			list, wide := roomyTape(tapeOf(n))
			if wrong >= 0 && wrong < n {
				list[wrong].Flag = 256
			}
			want := slices.Clone(wide)
			impl.TapText(list)
			if !slices.Equal(wide, want) {
				t.Fatal("TapText changes its list of", n, "to", short(wide))
			}
		}
	}
}

// unsafeText is a text whose bytes can be looked at by another name, so that a write into it is seen.
func unsafeText(s string) (string, []byte) {
	bytes := append([]byte(s), "behind"...)
	return unsafe.String(&bytes[0], len(s)), bytes
}

func TestTextsOfBlocksStay(t *testing.T) {
	right := textWritten(tapeOf(4)...)
	for _, s := range []string{right, right + "\x00", right[:len(right)-1], right + "\x02\x00\x07\x06", strings.Repeat(right, 2), "\x00\x00"} {
		given, bytes := unsafeText(s)
		impl.ReadTap(given)
		for i := range len(given) + 2 {
			impl.TakeBlock(impl.Cursor{Data: given, At: i - 1})
		}
		if string(bytes) != s+"behind" {
			t.Fatalf("a text that was handed in is changed to %x", bytes)
		}
	}
	for _, n := range []int{0, 1, impl.MaxBlock, impl.MaxBlock + 1} {
		s := blockOf(33, n).Data
		given, bytes := unsafeText(s)
		b := impl.Block{Flag: 33, Data: given}
		impl.BlockOK(b)
		impl.SumOf(b)
		impl.BlockText(b)
		impl.TapText([]impl.Block{b, b})
		if string(bytes) != s+"behind" || b != (impl.Block{Flag: 33, Data: given}) {
			t.Fatalf("data that was handed in is changed to %x", bytes)
		}
	}
}

// What was handed in is written to afterwards, and the answers stay.
func TestAnswersOfBlocksOwnTheirMemory(t *testing.T) {
	list := tapeOf(impl.MaxBlocks)
	s := textWritten(list...)
	given, bytes := unsafeText(s)
	got, _ := impl.ReadTap(given)
	var taken []impl.Block
	for c := at(given, 0); c.At < len(given); {
		x, b, code := impl.TakeBlock(c)
		if code != impl.OK {
			t.Fatal("TakeBlock is", code)
		}
		c, taken = x, append(taken, b)
	}
	clear(bytes)
	if !slices.Equal(got, list) {
		t.Error("blocks that ReadTap answers share memory with its text")
	}
	if !slices.Equal(taken, list) {
		t.Error("blocks that TakeBlock answers share memory with its cursor's data")
	}
}

func TestTextsOfBlocksOwnTheirMemory(t *testing.T) {
	for n := range impl.MaxBlock + 1 {
		given, bytes := unsafeText(blockOf(44, n).Data)
		b := impl.Block{Flag: 44, Data: given}
		one, _ := impl.BlockText(b)
		two, _ := impl.TapText([]impl.Block{b})
		want := textWritten(b)
		clear(bytes)
		if one != want || two != want {
			t.Error("of", n, "bytes a text shares memory with the data")
		}
	}
}

func TestBlocksOfOneAnswerShareNothing(t *testing.T) {
	same := make([]impl.Block, impl.MaxBlocks)
	for i := range same {
		same[i] = blockOf(8, impl.MaxBlock)
	}
	for _, list := range [][]impl.Block{same, tapeOf(impl.MaxBlocks)} {
		s := textWritten(list...)
		first, _ := impl.ReadTap(s)
		second, _ := impl.ReadTap(s)
		for i, b := range first {
			if liesIn(b.Data, s) || liesIn(b.Data, second[i].Data) {
				t.Error("the data of block", i, "lies in another text")
			}
			for j := range i {
				if liesIn(b.Data, first[j].Data) {
					t.Error("the data of blocks", i, "and", j, "share memory")
				}
			}
		}
		for i := range first[:cap(first)] {
			first[:cap(first)][i] = impl.Block{Flag: -1, Data: "another"}
		}
		third, _ := impl.ReadTap(s)
		if !slices.Equal(second, list) || !slices.Equal(third, list) {
			t.Error("two answers of ReadTap share memory")
		}
	}
}
