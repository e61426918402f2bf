package tests

import (
	"math"
	"regexp"
	"slices"
	"strconv"
	"strings"
	"testing"

	"loop.example/g00644/impl"
)

// letterOf says what a pulse may be: s of a sync, p of a pilot, - a pause, n none of these.
func letterOf(length int) byte {
	switch {
	case length <= 17:
		return 's'
	case length >= 200:
		return '-'
	case length >= 43:
		return 'p'
	}
	return 'n'
}

var (
	pilotLetters = regexp.MustCompile(`^p{8,}`)
	syncLetters  = regexp.MustCompile(`^ss`)
	pairLetters  = regexp.MustCompile(`^([^-].)*`)
)

// bytesHeard are those of pairs, which are eight and eight.
func bytesHeard(pulses []int) string {
	digits := ""
	for pair := range slices.Chunk(pulses, 2) {
		digits += strconv.Itoa(min(1, (pair[0]+pair[1])/61))
	}
	var out []byte
	for ; digits != ""; digits = digits[8:] {
		v, _ := strconv.ParseUint(digits[:8], 2, 8)
		out = append(out, byte(v))
	}
	return string(out)
}

// decodedWritten is the chapter's sentence told once more, on letters of the pulses.
func decodedWritten(pulses []int) ([]impl.Block, int) {
	if len(pulses) > 4096 {
		return nil, impl.ErrLong
	}
	if slices.ContainsFunc(pulses, func(length int) bool { return length <= 0 || length > 1000 }) {
		return nil, impl.ErrRange
	}
	all := make([]byte, len(pulses))
	for i, length := range pulses {
		all[i] = letterOf(length)
	}
	letters := string(all)
	var list []impl.Block
	for from := 0; from < len(letters); from++ {
		pilot := pilotLetters.FindString(letters[from:])
		if pilot == "" {
			return nil, impl.ErrPilot
		}
		from += len(pilot)
		if !syncLetters.MatchString(letters[from:]) {
			return nil, impl.ErrPulse
		}
		from += 2
		end := from + len(pairLetters.FindString(letters[from:]))
		if (end-from)%16 != 0 {
			return nil, impl.ErrBits
		}
		bytes := bytesHeard(pulses[from:end])
		answer := blockWritten(at(string([]byte{byte(len(bytes) % 256), byte(len(bytes) / 256)})+bytes, 0))
		if answer.code != impl.OK {
			return nil, answer.code
		}
		if list = append(list, answer.b); len(list) == 7 {
			return nil, impl.ErrMany
		}
		from = end
	}
	return list, impl.OK
}

// checkDecoded asks for an answer that a test tells, and that the chapter asks for, too.
func checkDecoded(t *testing.T, pulses []int, want []impl.Block, wantCode int) {
	t.Helper()
	if list, code := impl.DecodePulses(pulses); code != wantCode || !slices.Equal(list, want) {
		t.Error("of", len(pulses), "pulses", short(pulses), "DecodePulses is", short(list), code, "not", short(want), wantCode)
	}
	if list, code := decodedWritten(pulses); code != wantCode || !slices.Equal(list, want) {
		t.Error("of", len(pulses), "pulses", short(pulses), "the chapter asks for", short(list), code, "not", short(want), wantCode)
	}
}

func checkNotDecoded(t *testing.T, pulses []int, code int) {
	t.Helper()
	checkDecoded(t, pulses, nil, code)
}

// checkAsWritten is for pulses of which nothing but the chapter tells the answer.
func checkAsWritten(t *testing.T, pulses []int) {
	t.Helper()
	list, code := decodedWritten(pulses)
	checkDecoded(t, pulses, list, code)
}

// with is pulses with others at a place.
func with(pulses []int, place int, others ...int) []int {
	out := slices.Clone(pulses)
	copy(out[place:], others)
	return out
}

// withoutPause leaves the last pulse away.
func withoutPause(pulses []int) []int {
	return pulses[:len(pulses)-1]
}

// fittingTape is one whose pulses a list can hold.
func (l *lot) fittingTape() []impl.Block {
	for {
		list := l.someTape(l.below(impl.MaxBlocks + 1))
		if len(tapePulsesWritten(list...)) <= impl.MaxList {
			return list
		}
	}
}

func TestDecodePulsesOfNone(t *testing.T) {
	checkDecoded(t, nil, nil, impl.OK)
	checkDecoded(t, []int{}, nil, impl.OK)
}

func TestDecodePulsesOfWhatTapePulsesMade(t *testing.T) {
	l := lot(113)
	for n := range impl.MaxBlocks + 1 {
		lists := [][]impl.Block{tapeOf(n), make([]impl.Block, n)}
		for range 30 {
			lists = append(lists, l.fittingTape())
		}
		for _, list := range lists {
			pulses, code := impl.TapePulses(list)
			if code != impl.OK {
				t.Fatal("TapePulses of", len(list), "blocks is", code)
			}
			checkDecoded(t, pulses, list, impl.OK)
			if len(list) > 0 {
				checkDecoded(t, withoutPause(pulses), list, impl.OK)
			}
		}
	}
}

func TestDecodePulsesOfSingleBlocks(t *testing.T) {
	for flag := range 256 {
		for _, n := range []int{0, 1, impl.MaxBlock} {
			b := blockOf(flag, n)
			checkDecoded(t, pulsesWritten(b), []impl.Block{b}, impl.OK)
		}
		for v := range 256 {
			b := impl.Block{Flag: flag, Data: string([]byte{byte(v)})}
			p, _ := impl.PulsesOf(b)
			if list, code := impl.DecodePulses(p); code != impl.OK || !slices.Equal(list, []impl.Block{b}) {
				t.Error("of", short(b), "DecodePulses is", short(list), code)
			}
		}
	}
}

func TestDecodePulsesOfTooManyBlocks(t *testing.T) {
	small := func(n int) []impl.Block {
		list := make([]impl.Block, n)
		for i := range list {
			list[i] = blockOf(100+10*i, i%3)
		}
		return list
	}
	checkDecoded(t, tapePulsesWritten(small(impl.MaxBlocks)...), small(impl.MaxBlocks), impl.OK)
	checkDecoded(t, withoutPause(tapePulsesWritten(small(impl.MaxBlocks)...)), small(impl.MaxBlocks), impl.OK)
	for n := impl.MaxBlocks + 1; n <= impl.MaxBlocks+5; n++ {
		checkNotDecoded(t, tapePulsesWritten(small(n)...), impl.ErrMany)
		checkNotDecoded(t, withoutPause(tapePulsesWritten(small(n)...)), impl.ErrMany)
	}
}

// A pilot may be longer than it is written, so that a list has each length.
func TestDecodePulsesByLength(t *testing.T) {
	list := slices.Repeat([]impl.Block{blockOf(200, 30)}, impl.MaxBlocks)
	pulses := tapePulsesWritten(list...)
	for _, n := range []int{impl.MaxList - 2, impl.MaxList - 1, impl.MaxList} {
		checkDecoded(t, append(slices.Repeat([]int{48}, n-len(pulses)), pulses...), list, impl.OK)
	}
	for _, n := range []int{impl.MaxList + 1, impl.MaxList + 2, 2 * impl.MaxList, impl.MaxText + 1} {
		checkNotDecoded(t, append(slices.Repeat([]int{48}, n-len(pulses)), pulses...), impl.ErrLong)
	}
	for _, length := range []int{1, 17, 42} {
		checkNotDecoded(t, slices.Repeat([]int{length}, impl.MaxList), impl.ErrPilot)
	}
	for _, length := range []int{43, 48, 199} {
		checkNotDecoded(t, slices.Repeat([]int{length}, impl.MaxList), impl.ErrPulse)
	}
	for _, length := range []int{1, 48, 200, 0, 1001, -1, math.MaxInt} {
		checkNotDecoded(t, slices.Repeat([]int{length}, impl.MaxList+1), impl.ErrLong)
	}
	for _, flag := range []int{0, 255} {
		checkNotDecoded(t, tapePulsesWritten(slices.Repeat([]impl.Block{blockOf(flag, impl.MaxBlock)}, impl.MaxBlocks)...), impl.ErrLong)
	}
}

// A number that is no pulse is told ahead of all that stands before it.
func TestDecodePulsesOutOfBounds(t *testing.T) {
	right := tapePulsesWritten(blockOf(1, 1), blockOf(130, 0))
	for i := range right {
		for _, wrong := range noPulses() {
			checkNotDecoded(t, with(right, i, wrong), impl.ErrRange)
		}
	}
	for _, faulty := range faultySignals() {
		for _, wrong := range []int{0, 1001} {
			checkNotDecoded(t, append(slices.Clone(faulty.pulses), wrong), impl.ErrRange)
			checkNotDecoded(t, append([]int{wrong}, faulty.pulses...), impl.ErrRange)
		}
	}
	for _, wrong := range noPulses() {
		checkNotDecoded(t, []int{wrong}, impl.ErrRange)
		checkNotDecoded(t, append(slices.Repeat([]int{48}, impl.MaxList-1), wrong), impl.ErrRange)
		checkNotDecoded(t, append(slices.Repeat([]int{48}, impl.MaxList), wrong), impl.ErrLong)
	}
	for _, length := range []int{1, 1000} {
		checkNotDecoded(t, []int{length}, impl.ErrPilot)
	}
}

func TestDecodePulsesByThePilotsLength(t *testing.T) {
	for _, b := range []impl.Block{blockOf(0, 2), blockOf(255, 2)} {
		rest := textWritten(b)[2:]
		for n := range 40 {
			if n < 8 {
				checkNotDecoded(t, signal(n, rest), impl.ErrPilot)
			} else {
				checkDecoded(t, signal(n, rest), []impl.Block{b}, impl.OK)
			}
		}
	}
}

// Of each of a pilot's pulses each length is tried.
func TestDecodePulsesOfThePilotsPulses(t *testing.T) {
	for _, b := range []impl.Block{{Flag: 7}, {Flag: 130}} {
		right := pulsesWritten(b)
		for i := range slices.Index(right, 12) {
			for length := 1; length <= 1000; length++ {
				if length > 230 && length < 990 {
					continue
				}
				pulses := with(right, i, length)
				switch {
				case length >= 43 && length <= 199:
					checkDecoded(t, pulses, []impl.Block{b}, impl.OK)
				case i < 8:
					checkNotDecoded(t, pulses, impl.ErrPilot)
				case i == 15 && length <= 17:
					// It and the first of the sync are a sync: all bits begin a pulse early.
					checkDecoded(t, pulses, []impl.Block{{Flag: 3}}, impl.OK)
				default:
					checkNotDecoded(t, pulses, impl.ErrPulse)
				}
			}
		}
	}
}

func TestDecodePulsesOfThePilotWrittenOut(t *testing.T) {
	b := impl.Block{Flag: 130, Data: "x"}
	right := pulsesWritten(b)
	for _, length := range []int{43, 199} {
		checkDecoded(t, with(right, 0, slices.Repeat([]int{length}, 8)...), []impl.Block{b}, impl.OK)
		for i := range 8 {
			checkDecoded(t, with(right, i, length), []impl.Block{b}, impl.OK)
		}
	}
	for _, length := range []int{42, 200} {
		checkNotDecoded(t, with(right, 0, slices.Repeat([]int{length}, 8)...), impl.ErrPilot)
		for i := range 8 {
			checkNotDecoded(t, with(right, i, length), impl.ErrPilot)
		}
		long := append(slices.Repeat([]int{48}, 8), right...)
		for i := 8; i < 16; i++ {
			checkNotDecoded(t, with(long, i, length), impl.ErrPulse)
		}
	}
}

func TestDecodePulsesOfTheSync(t *testing.T) {
	for _, b := range []impl.Block{{Flag: 7}, {Flag: 130}} {
		right := pulsesWritten(b)
		place := slices.Index(right, 12)
		for length := 1; length <= 1000; length++ {
			for i := range 2 {
				pulses := with(right, place+i, length)
				if length <= 17 {
					checkDecoded(t, pulses, []impl.Block{b}, impl.OK)
				} else {
					checkNotDecoded(t, pulses, impl.ErrPulse)
				}
			}
		}
		checkDecoded(t, with(right, place, 17, 17), []impl.Block{b}, impl.OK)
		checkDecoded(t, with(right, place, 1, 1), []impl.Block{b}, impl.OK)
		checkDecoded(t, with(right, place, 14, 12), []impl.Block{b}, impl.OK)
		checkNotDecoded(t, with(right, place, 18, 18), impl.ErrPulse)
		checkNotDecoded(t, slices.Delete(slices.Clone(right), place, place+1), impl.ErrPulse)
		checkNotDecoded(t, slices.Delete(slices.Clone(right), place, place+2), impl.ErrPulse)
	}
}

// Cut off anywhere, a block has the code of where it ends.
func TestDecodePulsesCutOff(t *testing.T) {
	for _, b := range []impl.Block{blockOf(200, 3), blockOf(20, 3), blockOf(200, impl.MaxBlock)} {
		right := pulsesWritten(b)
		pilot := slices.Index(right, 12)
		for cut := 1; cut < len(right); cut++ {
			want := impl.ErrBits
			pairs := (cut - pilot - 2) / 2
			switch {
			case cut < 8:
				want = impl.ErrPilot
			case cut < pilot+2:
				want = impl.ErrPulse
			case pairs == 0 || pairs == 8:
				want = impl.ErrSize
			case pairs%8 == 0:
				want = impl.ErrSum
			}
			checkNotDecoded(t, right[:cut], want)
			other := blockOf(77, 1)
			checkNotDecoded(t, append(tapePulsesWritten(other), right[:cut]...), want)
		}
	}
}

// Both pulses of a bit together tell what it is, whatever each of them is.
func TestDecodePulsesByTheMiddle(t *testing.T) {
	one := []impl.Block{{Flag: 128, Data: "\x00"}}
	zero := []impl.Block{{Flag: 0, Data: "\x80"}}
	for _, c := range []struct {
		list []impl.Block
		is   bool
	}{{one, true}, {zero, false}} {
		right := pulsesWritten(c.list[0])
		place := slices.Index(right, 12) + 2
		for first := 1; first < 200; first++ {
			for second := 1; second <= 1000; second++ {
				want, wantCode := c.list, impl.OK
				if (first+second > 60) != c.is {
					want, wantCode = nil, impl.ErrSum
				}
				right[place], right[place+1] = first, second
				if list, code := impl.DecodePulses(right); code != wantCode || !slices.Equal(list, want) {
					t.Error("with a pair of", first, second, "DecodePulses is", short(list), code)
				}
			}
		}
	}
}

func TestDecodePulsesByTheMiddleInEachPlace(t *testing.T) {
	for _, v := range []byte{0, 255, 0x5a} {
		b := impl.Block{Flag: 200, Data: string([]byte{v, v ^ 15})}
		right := pulsesWritten(b)
		for i := 10; i < len(right); i += 2 {
			for _, c := range []struct{ first, second, length int }{
				{30, 30, 20}, {20, 40, 20}, {40, 20, 20}, {1, 59, 20}, {59, 1, 20}, {1, 1, 20},
				{30, 31, 40}, {31, 30, 40}, {20, 41, 40}, {41, 20, 40}, {1, 60, 40}, {60, 1, 40}, {199, 1, 40}, {199, 1000, 40},
			} {
				pulses := with(right, i, c.first, c.second)
				if c.length == right[i] {
					checkDecoded(t, pulses, []impl.Block{b}, impl.OK)
				} else {
					checkNotDecoded(t, pulses, impl.ErrSum)
				}
			}
		}
	}
}

// A pause as the second of a pair makes a one of it.
func TestDecodePulsesWithAPauseInAPair(t *testing.T) {
	b := impl.Block{Flag: 200, Data: "\x5a\x0f"}
	right := pulsesWritten(b)
	for i := 10; i < len(right); i += 2 {
		for _, length := range []int{199, 200, 201, 1000} {
			if right[i] == 40 {
				checkDecoded(t, with(right, i+1, length), []impl.Block{b}, impl.OK)
			} else {
				checkNotDecoded(t, with(right, i+1, length), impl.ErrSum)
			}
		}
	}
}

// A pause as the first of a pair ends the bits, and is passed over; what was its pair is no pilot.
func TestDecodePulsesWithAPauseAheadOfAPair(t *testing.T) {
	b := impl.Block{Flag: 200, Data: "\x00\xc8\x55"}
	right := pulsesWritten(b)
	for i := 10; i < len(right); i += 2 {
		want := impl.ErrBits
		switch i {
		case 10, 10 + 16:
			want = impl.ErrSize
		case 10 + 32, 10 + 64:
			want = impl.ErrSum
		case 10 + 48:
			want = impl.ErrPilot
		}
		for _, length := range []int{200, 201, 1000} {
			checkNotDecoded(t, with(right, i, length), want)
		}
		if right[i] == 40 {
			checkDecoded(t, with(right, i, 199), []impl.Block{b}, impl.OK)
		} else {
			checkNotDecoded(t, with(right, i, 199), impl.ErrSum)
		}
	}
	checkDecoded(t, append(right[:10+48:10+48], 200), []impl.Block{{Flag: 200, Data: "\x00"}}, impl.OK)
}

// A lone pulse behind the pairs is passed over, whatever it is.
func TestDecodePulsesWithALonePulse(t *testing.T) {
	for _, b := range []impl.Block{blockOf(3, 0), blockOf(200, 5), blockOf(255, impl.MaxBlock)} {
		right := pulsesWritten(b)
		for length := 1; length <= 1000; length++ {
			if list, code := impl.DecodePulses(append(slices.Clone(right), length)); code != impl.OK || !slices.Equal(list, []impl.Block{b}) {
				t.Error("with a lone pulse of", length, "DecodePulses is", short(list), code)
			}
		}
		for _, length := range []int{1, 17, 42, 48, 199} {
			checkDecoded(t, append(slices.Clone(right), length), []impl.Block{b}, impl.OK)
			checkNotDecoded(t, append(slices.Clone(right), length, length), impl.ErrBits)
			checkNotDecoded(t, append(slices.Clone(right), length, length, length), impl.ErrBits)
			checkNotDecoded(t, append(slices.Clone(right), length, 200), impl.ErrBits)
		}
	}
}

// Just one pulse is passed over.
func TestDecodePulsesPassesOverOne(t *testing.T) {
	first, second := blockOf(3, 2), blockOf(200, 1)
	for _, length := range []int{200, 201, 500, 999, 1000} {
		pulses := slices.Concat(pulsesWritten(first), []int{length}, pulsesWritten(second))
		checkDecoded(t, pulses, []impl.Block{first, second}, impl.OK)
		checkDecoded(t, append(pulses, length), []impl.Block{first, second}, impl.OK)
		checkNotDecoded(t, append(pulses, length, length), impl.ErrPilot)
		checkNotDecoded(t, append(pulses, length, 48), impl.ErrPilot)
		checkNotDecoded(t, slices.Concat(pulsesWritten(first), []int{length, length}, pulsesWritten(second)), impl.ErrPilot)
		checkNotDecoded(t, append([]int{length}, pulses...), impl.ErrPilot)
		checkNotDecoded(t, []int{length}, impl.ErrPilot)
	}
	checkAsWritten(t, append(pulsesWritten(first), pulsesWritten(second)...))
}

// No pause is shorter than PauseT: what is takes the pilot behind it for bits.
func TestDecodePulsesWithAShortPause(t *testing.T) {
	for _, flags := range [][2]int{{3, 200}, {200, 3}, {3, 4}, {200, 201}} {
		first, second := blockOf(flags[0], 2), blockOf(flags[1], 1)
		for _, length := range []int{1, 43, 150, 198, 199} {
			pulses := slices.Concat(pulsesWritten(first), []int{length}, pulsesWritten(second))
			checkNotDecoded(t, pulses, impl.ErrBits)
			checkNotDecoded(t, append(pulses, 200), impl.ErrBits)
		}
	}
}

func TestDecodePulsesOfNoWholeBytes(t *testing.T) {
	for _, n := range []int{0, 1, 2, 3, 42, 43, 44} {
		pulses := signal(8, strings.Repeat("\x00", n))
		for bits := 1; bits < 8; bits++ {
			for _, length := range []int{20, 40} {
				longer := append(slices.Clone(pulses), slices.Repeat([]int{length}, 2*bits)...)
				checkNotDecoded(t, longer, impl.ErrBits)
				checkNotDecoded(t, append(longer, 20), impl.ErrBits)
				checkNotDecoded(t, append(longer, 200), impl.ErrBits)
			}
		}
	}
}

func TestDecodePulsesByHowManyBytes(t *testing.T) {
	for n := range 250 {
		pulses := signal(8, strings.Repeat("\x00", n))
		wrong := signal(8, strings.Repeat("\x00", n)+"\x01")
		switch {
		case n < 2 || n > 42:
			checkNotDecoded(t, pulses, impl.ErrSize)
			checkNotDecoded(t, append(pulses, 200), impl.ErrSize)
		default:
			checkDecoded(t, pulses, []impl.Block{{Data: strings.Repeat("\x00", n-2)}}, impl.OK)
		}
		if n+1 < 2 || n+1 > 42 {
			checkNotDecoded(t, wrong, impl.ErrSize)
		} else {
			checkNotDecoded(t, wrong, impl.ErrSum)
		}
	}
}

// Each bit of flag, data and sum is turned about.
func TestDecodePulsesWithAnotherSum(t *testing.T) {
	for _, b := range []impl.Block{{}, {Flag: 255}, blockOf(100, 1), blockOf(200, 19), blockOf(255, impl.MaxBlock)} {
		right := pulsesWritten(b)
		for i := slices.Index(right, 12) + 2; i < len(right); i += 2 {
			pulses := with(right, i, 60-right[i], 60-right[i])
			checkNotDecoded(t, pulses, impl.ErrSum)
			checkNotDecoded(t, append(pulses, 200), impl.ErrSum)
		}
	}
}

type faultySignal struct {
	pulses []int
	code   int
}

// faultySignals have one fault each; behind each of them a pause and more may stand.
func faultySignals() []faultySignal {
	rest := textWritten(blockOf(140, 2))[2:]
	right := signal(8, rest)
	return []faultySignal{
		{signal(7, rest), impl.ErrPilot},
		{with(right, 7, 42), impl.ErrPilot},
		{with(right, 0, 200), impl.ErrPilot},
		{with(right, 8, 18), impl.ErrPulse},
		{with(right, 9, 18), impl.ErrPulse},
		{right[:8], impl.ErrPulse},
		{right[:9], impl.ErrPulse},
		{right[:len(right)-2], impl.ErrBits},
		{append(slices.Clone(right), 20, 20), impl.ErrBits},
		{signal(8, ""), impl.ErrSize},
		{signal(8, "\x8c"), impl.ErrSize},
		{signal(8, strings.Repeat("\x00", 43)), impl.ErrSize},
		{signal(8, "\x8c\x8d"), impl.ErrSum},
		{with(right, 10, 60-right[10], 60-right[10]), impl.ErrSum},
	}
}

// A wrong block stands first, in the middle and last.
func TestDecodePulsesWithAFaultyBlock(t *testing.T) {
	for _, faulty := range faultySignals() {
		for ahead := range impl.MaxBlocks + 1 {
			pulses := append(tapePulsesWritten(tapeOf(ahead)...), faulty.pulses...)
			checkNotDecoded(t, pulses, faulty.code)
			checkNotDecoded(t, append(pulses, 200), faulty.code)
			for behind := 1; behind < 4; behind++ {
				checkNotDecoded(t, slices.Concat(pulses, []int{200}, tapePulsesWritten(tapeOf(behind)...)), faulty.code)
			}
		}
	}
}

// Of two faulty blocks the first one is told, whatever the codes are.
func TestDecodePulsesWithTwoFaultyBlocks(t *testing.T) {
	for _, first := range faultySignals() {
		for _, second := range faultySignals() {
			checkNotDecoded(t, slices.Concat(first.pulses, []int{200}, second.pulses), first.code)
			checkNotDecoded(t, slices.Concat(tapePulsesWritten(tapeOf(2)...), first.pulses, []int{200}, tapePulsesWritten(tapeOf(1)...), second.pulses), first.code)
		}
	}
}

// What stands as the block after MaxBlocks is asked for its own faults ahead of ErrMany; what stands behind that one is not asked any more.
func TestDecodePulsesOfAFaultyBlockTooMany(t *testing.T) {
	full := tapePulsesWritten(tapeOf(impl.MaxBlocks)...)
	for _, faulty := range faultySignals() {
		checkNotDecoded(t, slices.Concat(full, faulty.pulses), faulty.code)
		checkNotDecoded(t, slices.Concat(full, tapePulsesWritten(impl.Block{Flag: 7}), faulty.pulses), impl.ErrMany)
	}
	for _, length := range []int{1, 42, 48, 200, 1000} {
		checkNotDecoded(t, append(slices.Clone(full), length), impl.ErrPilot)
	}
}

// Of two faults of one block the one that the chapter names first is told.
func TestDecodePulsesFaultsInTheirOrder(t *testing.T) {
	for _, c := range []struct {
		name   string
		pulses []int
		code   int
	}{
		{"pilot and sync", with(signal(7, "\x01\x01"), 7, 18), impl.ErrPilot},
		{"pilot and bits", withoutPause(withoutPause(signal(7, "\x01\x01"))), impl.ErrPilot},
		{"pilot and size", signal(7, ""), impl.ErrPilot},
		{"pilot and sum", signal(7, "\x01\x02"), impl.ErrPilot},
		{"sync and bits", with(append(signal(8, "\x01\x01"), 20, 20), 8, 18), impl.ErrPulse},
		{"sync and size", with(signal(8, ""), 9, 18), impl.ErrPulse},
		{"sync and sum", with(signal(8, "\x01\x02"), 9, 18), impl.ErrPulse},
		{"bits and size, too few", append(signal(8, ""), 20, 20), impl.ErrBits},
		{"bits and size, too many", append(signal(8, strings.Repeat("\x00", 43)), 20, 20), impl.ErrBits},
		{"bits and sum", append(signal(8, "\x01\x02"), 20, 20), impl.ErrBits},
		{"size and sum", signal(8, strings.Repeat("\x00", 42)+"\x01"), impl.ErrSize},
	} {
		checkNotDecoded(t, c.pulses, c.code)
		if _, code := impl.DecodePulses(c.pulses); code != c.code {
			t.Error(c.name, "but DecodePulses is", code)
		}
	}
}

// fewPulses are all lists of few pulses, each of a length at an end of something.
func fewPulses(most int, with func(pulses []int)) {
	lengths := []int{17, 18, 42, 43, 199, 200}
	level := [][]int{nil}
	for range most + 1 {
		var longer [][]int
		for _, pulses := range level {
			with(pulses)
			for _, length := range lengths {
				longer = append(longer, append(slices.Clone(pulses), length))
			}
		}
		level = longer
	}
}

func TestDecodePulsesOfAllFewPulses(t *testing.T) {
	fewPulses(5, func(pulses []int) {
		checkAsWritten(t, pulses)
		checkAsWritten(t, append(slices.Repeat([]int{43}, 7), pulses...))
		checkAsWritten(t, slices.Concat(slices.Repeat([]int{199}, 7), pulses, signal(8, "\x01\x01")))
		checkAsWritten(t, append(signal(8, "\x00\x00"), pulses...))
		checkAsWritten(t, slices.Concat(signal(8, "\x00\x00"), pulses, signal(8, "\x01\x01")))
	})
}

// spoilt pulses are right ones with some others, some more and some fewer.
func (l *lot) spoiltPulses() []int {
	lengths := []int{1, 11, 12, 14, 17, 18, 19, 20, 21, 30, 31, 39, 40, 41, 42, 43, 47, 48, 49, 59, 60, 61, 198, 199, 200, 201, 999, 1000}
	pulses := tapePulsesWritten(l.fittingTape()...)
	for range 1 + l.below(3) {
		i := l.below(len(pulses) + 1)
		length := lengths[l.below(len(lengths))]
		end := min(len(pulses), i+l.below(20))
		switch l.below(5) {
		case 0:
			pulses = slices.Insert(pulses, i, length)
		case 1:
			pulses = slices.Insert(pulses, i, slices.Repeat([]int{length}, l.below(20))...)
		case 2:
			pulses = slices.Delete(pulses, i, end)
		case 3:
			pulses = pulses[:i]
		case 4:
			for j := range pulses[i:end] {
				pulses[i+j] = lengths[l.below(len(lengths))]
			}
		}
	}
	return pulses
}

func TestDecodePulsesOfSpoiltOnes(t *testing.T) {
	l := lot(114)
	codes := map[int]int{}
	for range 4000 {
		pulses := l.spoiltPulses()
		checkAsWritten(t, pulses)
		_, code := impl.DecodePulses(pulses)
		codes[code]++
	}
	for _, code := range []int{impl.OK, impl.ErrPilot, impl.ErrPulse, impl.ErrBits, impl.ErrSize, impl.ErrSum} {
		if codes[code] == 0 {
			t.Error("of all that is spoilt nothing is", code)
		}
	}
}
