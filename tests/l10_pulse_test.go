package tests

import (
	"fmt"
	"math"
	"slices"
	"strings"
	"testing"

	"loop.example/g00644/impl"
)

// bitsWritten are the digits of each byte in base two.
func bitsWritten(s string) []int {
	var list []int
	for i := range len(s) {
		for _, digit := range fmt.Sprintf("%08b", s[i]) {
			list = append(list, int(digit-'0'))
		}
	}
	return list
}

// pairsWritten are the pulses of bytes, whatever they say.
func pairsWritten(s string) []int {
	var list []int
	for _, bit := range bitsWritten(s) {
		list = append(list, 20+20*bit, 20+20*bit)
	}
	return list
}

// signal is a pilot of n pulses, a sync and the pulses of bytes, whatever they say.
func signal(n int, s string) []int {
	return slices.Concat(slices.Repeat([]int{48}, n), []int{12, 14}, pairsWritten(s))
}

func pulsesWritten(b impl.Block) []int {
	n := 8
	if b.Flag <= 127 {
		n = 16
	}
	return signal(n, textWritten(b)[2:])
}

func tapePulsesWritten(list ...impl.Block) []int {
	var pulses []int
	for _, b := range list {
		pulses = append(append(pulses, pulsesWritten(b)...), 200)
	}
	return pulses
}

func TestPulseLengths(t *testing.T) {
	got := []int{impl.PilotT, impl.PilotN, impl.SyncOne, impl.SyncTwo, impl.ZeroT, impl.OneT, impl.Middle, impl.PauseT}
	if want := []int{48, 8, 12, 14, 20, 40, 60, 200}; !slices.Equal(got, want) {
		t.Error("the lengths of pulses are", got, "not", want)
	}
}

func checkBits(t *testing.T, s string) {
	t.Helper()
	if got, code := impl.BitsOf(s); code != impl.OK || !slices.Equal(got, bitsWritten(s)) {
		t.Error("BitsOf of", short(s), "is", short(got), code)
	}
}

func TestBitsOfFewBytes(t *testing.T) {
	if got, code := impl.BitsOf(""); len(got) != 0 || code != impl.OK {
		t.Error("BitsOf of no byte is", got, code)
	}
	for v := range 256 {
		checkBits(t, string([]byte{byte(v)}))
		for w := range 256 {
			checkBits(t, string([]byte{byte(v), byte(w)}))
		}
	}
}

func TestBitsOfWrittenOut(t *testing.T) {
	for _, c := range []struct {
		s    string
		want []int
	}{
		{"\x01", []int{0, 0, 0, 0, 0, 0, 0, 1}},
		{"\x80", []int{1, 0, 0, 0, 0, 0, 0, 0}},
		{"\xfe", []int{1, 1, 1, 1, 1, 1, 1, 0}},
		{"\x32\xff", []int{0, 0, 1, 1, 0, 0, 1, 0, 1, 1, 1, 1, 1, 1, 1, 1}},
		{"é", []int{1, 1, 0, 0, 0, 0, 1, 1, 1, 0, 1, 0, 1, 0, 0, 1}},
	} {
		if got, code := impl.BitsOf(c.s); code != impl.OK || !slices.Equal(got, c.want) {
			t.Errorf("BitsOf of %x is %v %d", c.s, got, code)
		}
	}
}

// Up to 400 bytes have bits; then they are ErrSize, beyond MaxText ErrLong.
func TestBitsOfByLength(t *testing.T) {
	for n := range 401 {
		checkBits(t, longText(n))
		checkBits(t, strings.Repeat("\xff", n))
	}
	for n, want := range map[int]int{
		401: impl.ErrSize, 402: impl.ErrSize, 512: impl.ErrSize, 656: impl.ErrSize,
		impl.MaxList: impl.ErrSize, impl.MaxList + 1: impl.ErrSize,
		impl.MaxText - 1: impl.ErrSize, impl.MaxText: impl.ErrSize,
		impl.MaxText + 1: impl.ErrLong, impl.MaxText + 400: impl.ErrLong, 3 * impl.MaxText: impl.ErrLong,
	} {
		for _, s := range []string{longText(n), strings.Repeat("\x00", n)} {
			if got, code := impl.BitsOf(s); len(got) != 0 || code != want {
				t.Error("BitsOf of", n, "bytes is", short(got), code, "not", want)
			}
		}
	}
}

func TestByteOfAllBits(t *testing.T) {
	for v := range 256 {
		bits := bitsWritten(string([]byte{byte(v)}))
		if got, code := impl.ByteOf(bits); got != v || code != impl.OK {
			t.Error("ByteOf of", bits, "is", got, code)
		}
	}
	for place, want := range []int{128, 64, 32, 16, 8, 4, 2, 1} {
		bits := make([]int, 8)
		bits[place] = 1
		if got, code := impl.ByteOf(bits); got != want || code != impl.OK {
			t.Error("ByteOf of", bits, "is", got, code)
		}
	}
}

func wantNoByte(t *testing.T, bits []int, want int) {
	t.Helper()
	if got, code := impl.ByteOf(bits); got != 0 || code != want {
		t.Error("ByteOf of", len(bits), "numbers", short(bits), "is", got, code, "not", want)
	}
}

func TestByteOfANumberThatIsNoBit(t *testing.T) {
	for v := range 256 {
		for place := range 8 {
			for _, wrong := range beyond(1) {
				bits := bitsWritten(string([]byte{byte(v)}))
				bits[place] = wrong
				wantNoByte(t, bits, impl.ErrRange)
			}
		}
	}
}

// Another length is ErrSize up to MaxList, ErrLong beyond it, whatever the numbers are.
func TestByteOfByLength(t *testing.T) {
	wantNoByte(t, nil, impl.ErrSize)
	wantNoByte(t, []int{}, impl.ErrSize)
	for n, want := range map[int]int{
		0: impl.ErrSize, 1: impl.ErrSize, 2: impl.ErrSize, 7: impl.ErrSize, 9: impl.ErrSize, 10: impl.ErrSize,
		15: impl.ErrSize, 16: impl.ErrSize, 17: impl.ErrSize, 256: impl.ErrSize, 264: impl.ErrSize,
		impl.MaxList - 1: impl.ErrSize, impl.MaxList: impl.ErrSize,
		impl.MaxList + 1: impl.ErrLong, impl.MaxList + 8: impl.ErrLong, 2 * impl.MaxList: impl.ErrLong, impl.MaxText + 1: impl.ErrLong,
	} {
		for _, bit := range []int{0, 1, 2, -1, math.MaxInt} {
			wantNoByte(t, slices.Repeat([]int{bit}, n), want)
		}
		if n > 0 {
			bits := make([]int, n)
			bits[n-1] = 2
			wantNoByte(t, bits, want)
		}
	}
}

func TestByteOfWhatBitsOfMade(t *testing.T) {
	s := longText(400)
	bits, _ := impl.BitsOf(s)
	for i := range len(s) {
		if v, code := impl.ByteOf(bits[8*i : 8*i+8]); v != int(s[i]) || code != impl.OK {
			t.Error("ByteOf of the bits of byte", i, "is", v, code, "not", s[i])
		}
	}
}

func checkPulses(t *testing.T, b impl.Block) {
	t.Helper()
	got, code := impl.PulsesOf(b)
	want := pulsesWritten(b)
	if code != impl.OK || len(got) != len(want) {
		t.Error("PulsesOf of", short(b), "is", len(got), "pulses", code, "not", len(want))
		return
	}
	for i := range want {
		if got[i] != want[i] {
			t.Error("PulsesOf of", short(b), "has", got[i], "at", i, "not", want[i])
		}
	}
}

func TestPulsesOfPulseByPulse(t *testing.T) {
	for flag := range 256 {
		for _, n := range []int{0, 1, 2, 17, impl.MaxBlock - 1, impl.MaxBlock} {
			checkPulses(t, blockOf(flag, n))
		}
	}
	for _, flag := range []int{0, 127, 128, 255} {
		for v := range 256 {
			checkPulses(t, impl.Block{Flag: flag, Data: string([]byte{byte(v)})})
			checkPulses(t, impl.Block{Flag: flag, Data: strings.Repeat(string([]byte{byte(v)}), impl.MaxBlock)})
		}
		for n := range impl.MaxBlock + 1 {
			checkPulses(t, blockOf(flag, n))
		}
	}
}

// How many of each length there are, told without a list of them.
func TestPulsesOfCounted(t *testing.T) {
	for _, c := range []struct {
		b                                  impl.Block
		pilot, zeros, ones, before, behind int
	}{
		{impl.Block{Flag: 0}, 16, 32, 0, 20, 20},
		{impl.Block{Flag: 127}, 16, 4, 28, 20, 40},
		{impl.Block{Flag: 128}, 8, 28, 4, 40, 20},
		{impl.Block{Flag: 255}, 8, 0, 32, 40, 40},
		{impl.Block{Flag: 127, Data: "\xff"}, 16, 16, 32, 20, 20},
		{impl.Block{Flag: 128, Data: "\x01"}, 8, 40, 8, 40, 40},
		{impl.Block{Flag: 255, Data: strings.Repeat("\xff", 40)}, 8, 0, 672, 40, 40},
		{impl.Block{Flag: 0, Data: strings.Repeat("\x00", 40)}, 16, 672, 0, 20, 20},
	} {
		p, code := impl.PulsesOf(c.b)
		if code != impl.OK || len(p) != c.pilot+2+c.zeros+c.ones {
			t.Error("PulsesOf of", short(c.b), "is", len(p), "pulses", code)
			continue
		}
		counts := map[int]int{}
		for _, length := range p {
			counts[length]++
		}
		if counts[48] != c.pilot || counts[12] != 1 || counts[14] != 1 || counts[20] != c.zeros || counts[40] != c.ones {
			t.Error("PulsesOf of", short(c.b), "has", counts)
		}
		if p[c.pilot] != 12 || p[c.pilot+1] != 14 || p[c.pilot+2] != c.before || p[len(p)-1] != c.behind {
			t.Error("PulsesOf of", short(c.b), "is", short(p))
		}
	}
}

func TestPulsesOfWrongBlocks(t *testing.T) {
	for _, b := range wrongBlocks() {
		if p, code := impl.PulsesOf(b); len(p) != 0 || code != impl.ErrBad {
			t.Error("PulsesOf of", short(b), "is", short(p), code)
		}
		if p, code := impl.TapePulses([]impl.Block{b}); len(p) != 0 || code != impl.ErrBad {
			t.Error("TapePulses of", short(b), "is", short(p), code)
		}
	}
}

func checkTapePulses(t *testing.T, list []impl.Block) {
	t.Helper()
	got, code := impl.TapePulses(list)
	if code != impl.OK || !slices.Equal(got, tapePulsesWritten(list...)) {
		t.Error("TapePulses of", len(list), "blocks is", short(got), code)
		return
	}
	end := 0
	for i, b := range list {
		end += len(pulsesWritten(b)) + 1
		if got[end-1] != impl.PauseT {
			t.Error("behind block", i, "there is", got[end-1])
		}
	}
	if end != len(got) {
		t.Error("TapePulses of", len(list), "blocks has", len(got), "pulses, not", end)
	}
}

func TestTapePulsesOfEachNumberOfBlocks(t *testing.T) {
	checkTapePulses(t, nil)
	checkTapePulses(t, []impl.Block{})
	l := lot(110)
	for n := range impl.MaxBlocks + 1 {
		checkTapePulses(t, tapeOf(n))
		checkTapePulses(t, make([]impl.Block, n))
		for range 100 {
			checkTapePulses(t, l.someTape(n))
		}
	}
	for flag := range 256 {
		checkTapePulses(t, []impl.Block{blockOf(flag, 1), blockOf(255-flag, 0)})
	}
}

// Of the greatest tapes there are more pulses than a list that is handed in may have.
func TestTapePulsesOfTheGreatestTapes(t *testing.T) {
	for flag, want := range map[int]int{0: 4146, 127: 4146, 128: 4098, 255: 4098} {
		list := slices.Repeat([]impl.Block{blockOf(flag, impl.MaxBlock)}, impl.MaxBlocks)
		checkTapePulses(t, list)
		if p, _ := impl.TapePulses(list); len(p) != want {
			t.Error("of flag", flag, "there are", len(p), "pulses, not", want)
		}
	}
}

func TestTapePulsesIsPulsesOfAndPauses(t *testing.T) {
	l := lot(111)
	for n := range impl.MaxBlocks + 1 {
		for range 50 {
			list := l.someTape(n)
			var want []int
			for _, b := range list {
				p, _ := impl.PulsesOf(b)
				want = append(append(want, p...), impl.PauseT)
			}
			if got, code := impl.TapePulses(list); code != impl.OK || !slices.Equal(got, want) {
				t.Error("TapePulses of", n, "blocks is", short(got), code)
			}
		}
	}
}

func TestTapePulsesWithOneWrongBlock(t *testing.T) {
	for n := 1; n <= impl.MaxBlocks+1; n++ {
		for i := range n {
			for _, wrong := range []impl.Block{{Flag: -1}, {Flag: 256}, {Flag: math.MinInt}, {Flag: math.MaxInt}, blockOf(0, impl.MaxBlock+1), blockOf(0, impl.MaxText+1)} {
				list := tapeOf(n)
				list[i] = wrong
				if p, code := impl.TapePulses(list); len(p) != 0 || code != impl.ErrBad {
					t.Error("with a wrong block at", i, "of", n, "TapePulses is", short(p), code)
				}
			}
		}
	}
}

// More blocks than MaxBlocks are ErrBad up to MaxList, ErrLong beyond it, whether the blocks are right or not.
func TestTapePulsesOfTooManyBlocks(t *testing.T) {
	for n, want := range map[int]int{
		impl.MaxBlocks + 1: impl.ErrBad,
		impl.MaxBlocks + 2: impl.ErrBad,
		256:                impl.ErrBad,
		impl.MaxList - 1:   impl.ErrBad,
		impl.MaxList:       impl.ErrBad,
		impl.MaxList + 1:   impl.ErrLong,
		impl.MaxList + 2:   impl.ErrLong,
		2 * impl.MaxList:   impl.ErrLong,
		impl.MaxText + 1:   impl.ErrLong,
	} {
		for _, b := range []impl.Block{{}, blockOf(9, 3), {Flag: 256}, blockOf(0, impl.MaxBlock+1)} {
			if p, code := impl.TapePulses(slices.Repeat([]impl.Block{b}, n)); len(p) != 0 || code != want {
				t.Error("of", n, "blocks TapePulses is", short(p), code, "not", want)
			}
		}
	}
}

func checkLength(t *testing.T, pulses []int, want, wantCode int) {
	t.Helper()
	if got, code := impl.LengthOfTape(pulses); got != want || code != wantCode {
		t.Error("LengthOfTape of", len(pulses), "pulses", short(pulses), "is", got, code, "not", want, wantCode)
	}
}

func TestLengthOfTapeOfRightPulses(t *testing.T) {
	checkLength(t, nil, 0, impl.OK)
	checkLength(t, []int{}, 0, impl.OK)
	for length := 1; length <= 1000; length++ {
		checkLength(t, []int{length}, length, impl.OK)
		checkLength(t, []int{length, 1001 - length, length}, 1001+length, impl.OK)
	}
	for _, n := range []int{1, 2, 3, 100, impl.MaxList - 1, impl.MaxList} {
		checkLength(t, slices.Repeat([]int{1}, n), n, impl.OK)
		checkLength(t, slices.Repeat([]int{1000}, n), 1000*n, impl.OK)
		rising := make([]int, n)
		want := 0
		for i := range rising {
			rising[i] = 1 + i%1000
			want += rising[i]
		}
		checkLength(t, rising, want, impl.OK)
	}
}

// A block's time hangs on how many of its bits are ones.
func TestLengthOfTapeOfTapes(t *testing.T) {
	checkLength(t, tapePulsesWritten(impl.Block{}), 16*48+26+32*20+200, impl.OK)
	checkLength(t, tapePulsesWritten(impl.Block{Flag: 255}, impl.Block{Flag: 128}), 2*(8*48+26+200)+32*40+4*40+28*20, impl.OK)
	l := lot(112)
	for range 300 {
		list := l.someTape(l.below(6))
		want := 0
		for _, b := range list {
			want += 8*48 + 12 + 14 + 200
			if b.Flag < 128 {
				want += 8 * 48
			}
			for _, bit := range bitsWritten(textWritten(b)[2:]) {
				want += 40 + 40*bit
			}
		}
		p, _ := impl.TapePulses(list)
		checkLength(t, p, want, impl.OK)
	}
}

// noPulses are below 1 or above 1000.
func noPulses() []int {
	return []int{math.MinInt, math.MinInt + 1, -1 << 32, -1000, -48, -2, -1, 0, 1001, 1002, 2000, 65536, 1 << 32, 1<<32 + 48, math.MaxInt - 1, math.MaxInt}
}

func TestLengthOfTapeOfWrongPulses(t *testing.T) {
	for _, n := range []int{1, 2, 3, 17} {
		for i := range n {
			for _, wrong := range noPulses() {
				pulses := slices.Repeat([]int{500}, n)
				pulses[i] = wrong
				checkLength(t, pulses, 0, impl.ErrRange)
			}
		}
	}
	for i := range impl.MaxList {
		for _, wrong := range []int{0, 1001} {
			pulses := slices.Repeat([]int{1}, impl.MaxList)
			pulses[i] = wrong
			checkLength(t, pulses, 0, impl.ErrRange)
		}
	}
}

// Beyond MaxList it is ErrLong, whatever the pulses are.
func TestLengthOfTapeOfLongLists(t *testing.T) {
	for _, n := range []int{impl.MaxList + 1, impl.MaxList + 2, 5000, 2 * impl.MaxList, impl.MaxText, impl.MaxText + 1} {
		for _, length := range []int{1, 1000, 0, 1001, -1, math.MaxInt} {
			checkLength(t, slices.Repeat([]int{length}, n), 0, impl.ErrLong)
		}
	}
	for _, length := range noPulses() {
		checkLength(t, slices.Repeat([]int{length}, impl.MaxList), 0, impl.ErrRange)
	}
}
