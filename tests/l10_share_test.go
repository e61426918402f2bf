package tests

import (
	"slices"
	"testing"

	"loop.example/g00644/impl"
)

// roomyNumbers is list with numbers behind its end, and all of it.
func roomyNumbers(list []int) (narrow, wide []int) {
	wide = append(slices.Clone(list), behindEnd, behindEnd+1, behindEnd+2)
	return wide[:len(list)], wide
}

// scribbleNumbers writes into all the memory that a list has.
func scribbleNumbers(list []int) {
	all := list[:cap(list)]
	for i := range all {
		all[i] = -7
	}
}

// somePulses are right ones and ones with each fault.
func somePulses() [][]int {
	lists := [][]int{nil, tapePulsesWritten(tapeOf(impl.MaxBlocks)...), tapePulsesWritten(tapeOf(impl.MaxBlocks + 1)...), {0}, {1, 1001}, slices.Repeat([]int{48}, impl.MaxList), slices.Repeat([]int{48}, impl.MaxList+1)}
	for _, faulty := range faultySignals() {
		lists = append(lists, faulty.pulses, append(tapePulsesWritten(tapeOf(2)...), faulty.pulses...))
	}
	return lists
}

func TestListsOfPulsesStay(t *testing.T) {
	for _, pulses := range somePulses() {
		given, wide := roomyNumbers(pulses)
		want := slices.Clone(wide)
		impl.DecodePulses(given)
		impl.LengthOfTape(given)
		impl.ByteOf(given)
		if !slices.Equal(wide, want) {
			t.Error("a list of", len(pulses), "pulses is changed")
		}
	}
}

func TestListsOfBitsStay(t *testing.T) {
	for _, bits := range [][]int{nil, {0, 1, 1, 0, 1, 0, 0, 1}, {1, 1, 1, 1, 1, 1, 1, 2}, {1, 0, 1, 0, 1, 0, 1}, {1, 0, 1, 0, 1, 0, 1, 0, 1}} {
		given, wide := roomyNumbers(bits)
		want := slices.Clone(wide)
		impl.ByteOf(given)
		if !slices.Equal(wide, want) {
			t.Error("ByteOf changes its list of", len(bits), "to", wide)
		}
	}
}

func TestBlocksThatArePulsedStay(t *testing.T) {
	for n := range impl.MaxBlocks + 3 {
		for _, wrong := range []int{-1, 0, n - 1} {
			list, wide := roomyTape(tapeOf(n))
			if wrong >= 0 && wrong < n {
				list[wrong].Flag = 256
			}
			want := slices.Clone(wide)
			impl.TapePulses(list)
			if !slices.Equal(wide, want) {
				t.Fatal("TapePulses changes its list of", n, "to", short(wide))
			}
		}
	}
}

func TestTextsThatArePulsedStay(t *testing.T) {
	for _, n := range []int{0, 1, impl.MaxBlock, impl.MaxBlock + 1, 400, 401} {
		s := blockOf(33, n).Data
		given, bytes := unsafeText(s)
		b := impl.Block{Flag: 33, Data: given}
		impl.BitsOf(given)
		impl.PulsesOf(b)
		impl.TapePulses([]impl.Block{b, b})
		if string(bytes) != s+"behind" || b != (impl.Block{Flag: 33, Data: given}) {
			t.Fatalf("a text that was handed in is changed to %x", bytes)
		}
	}
}

// An answer is written over, and the same call answers as it did.
func TestNumbersOfOneAnswerAreItsOwn(t *testing.T) {
	b := blockOf(99, 7)
	for name, call := range map[string]func() []int{
		"BitsOf":     func() []int { list, _ := impl.BitsOf(longText(40)); return list },
		"PulsesOf":   func() []int { list, _ := impl.PulsesOf(b); return list },
		"TapePulses": func() []int { list, _ := impl.TapePulses([]impl.Block{b, b}); return list },
	} {
		first, second := call(), call()
		want := slices.Clone(first)
		scribbleNumbers(first)
		if third := call(); len(want) == 0 || !slices.Equal(second, want) || !slices.Equal(third, want) {
			t.Error("two answers of", name, "share memory")
		}
	}
}

// What was handed in is written to afterwards, and the answers stay.
func TestBlocksThatAreDecodedOwnTheirMemory(t *testing.T) {
	list := tapeOf(impl.MaxBlocks)
	pulses := tapePulsesWritten(list...)
	got, _ := impl.DecodePulses(pulses)
	again, _ := impl.DecodePulses(pulses)
	scribbleNumbers(pulses)
	if !slices.Equal(got, list) {
		t.Error("blocks that DecodePulses answers share memory with its pulses")
	}
	for i, b := range got {
		for j := range i {
			if liesIn(b.Data, got[j].Data) {
				t.Error("the data of blocks", i, "and", j, "share memory")
			}
		}
		if liesIn(b.Data, again[i].Data) {
			t.Error("the data of block", i, "is that of another answer")
		}
	}
	for i := range got[:cap(got)] {
		got[:cap(got)][i] = impl.Block{Flag: -1, Data: "another"}
	}
	if !slices.Equal(again, list) {
		t.Error("two answers of DecodePulses share memory")
	}
}
