package tests

import (
	"slices"
	"testing"

	"loop.example/g00644/impl"
)

// heard asks for the blocks of a tape whose pulses are not just as they were written.
func heard(t *testing.T, how string, pulses []int, list []impl.Block) {
	t.Helper()
	if got, code := impl.DecodePulses(pulses); code != impl.OK || !slices.Equal(got, list) {
		t.Error(how, "of", short(list), "the pulses give", short(got), code)
	}
}

// pulsed is a tape whose pulses are made longer by a rule; a pause between two blocks is never made shorter, as no pause is below PauseT.
func pulsed(t *testing.T, list []impl.Block, longer func() int) []int {
	t.Helper()
	pulses, code := impl.TapePulses(list)
	if code != impl.OK || len(pulses) > impl.MaxList {
		t.Fatal("TapePulses of", short(list), "is", len(pulses), "pulses", code)
	}
	for i, length := range pulses {
		by := longer()
		if length == impl.PauseT && i < len(pulses)-1 {
			by = max(by, 0)
		}
		pulses[i] += by
	}
	return pulses
}

// checkHeard takes a tape as it is, all of it a T longer, all a T shorter, one and one, and mixed, each with and without its last pause.
func checkHeard(t *testing.T, l *lot, list []impl.Block) {
	t.Helper()
	turn := 1
	for _, c := range []struct {
		how    string
		longer func() int
	}{
		{"as they are", func() int { return 0 }},
		{"a T longer", func() int { return 1 }},
		{"a T shorter", func() int { return -1 }},
		{"turn by turn", func() int { turn = -turn; return turn }},
		{"mixed", func() int { return l.below(3) - 1 }},
		{"mixed ends", func() int { return 2*l.below(2) - 1 }},
	} {
		pulses := pulsed(t, list, c.longer)
		heard(t, c.how, pulses, list)
		if len(list) > 0 {
			heard(t, c.how+" without the last pause", withoutPause(pulses), list)
		}
	}
}

func TestPromise11SingleBlocks(t *testing.T) {
	l := lot(1100)
	checkHeard(t, &l, nil)
	for flag := range 256 {
		for _, n := range []int{0, 1, 2, impl.MaxBlock} {
			checkHeard(t, &l, []impl.Block{blockOf(flag, n)})
		}
	}
	for n := range impl.MaxBlock + 1 {
		checkHeard(t, &l, []impl.Block{blockOf(127, n)})
		checkHeard(t, &l, []impl.Block{blockOf(128, n)})
	}
	for v := range 256 {
		checkHeard(t, &l, []impl.Block{{Flag: 255 - v, Data: string([]byte{byte(v)})}})
	}
}

func TestPromise11Tapes(t *testing.T) {
	l := lot(1101)
	for n := range impl.MaxBlocks + 1 {
		checkHeard(t, &l, tapeOf(n))
		checkHeard(t, &l, make([]impl.Block, n))
		checkHeard(t, &l, slices.Repeat([]impl.Block{{Flag: 255, Data: "\xff\x00"}}, n))
	}
	for range 300 {
		checkHeard(t, &l, l.fittingTape())
	}
}

// The greatest tapes that a list has room for.
func TestPromise11GreatTapes(t *testing.T) {
	l := lot(1102)
	great := slices.Repeat([]impl.Block{blockOf(200, impl.MaxBlock)}, impl.MaxBlocks-1)
	checkHeard(t, &l, great)
	checkHeard(t, &l, append(great, blockOf(200, impl.MaxBlock-1)))
	checkHeard(t, &l, append([]impl.Block{blockOf(0, impl.MaxBlock-1)}, great...))
}

// Each pulse alone is a T too long or too short.
func TestPromise11EachPulse(t *testing.T) {
	list := []impl.Block{{Flag: 5, Data: "\xa5"}, {Flag: 250}, {Flag: 90, Data: "\x0f\xf0"}}
	right, _ := impl.TapePulses(list)
	for i, length := range right {
		heard(t, "with one a T longer", with(right, i, length+1), list)
		if length < impl.PauseT || i == len(right)-1 {
			heard(t, "with one a T shorter", with(right, i, length-1), list)
		}
	}
}

// With the middle alone a bit is heard, however its two pulses share their time.
func TestPromise11TheMiddle(t *testing.T) {
	l := lot(1103)
	for range 300 {
		list := l.fittingTape()
		pulses, _ := impl.TapePulses(list)
		for i := 0; i+1 < len(pulses); i++ {
			pair := pulses[i]
			if pair != pulses[i+1] || pair != impl.ZeroT && pair != impl.OneT {
				continue
			}
			early := l.below(pair)
			pulses[i] -= early
			pulses[i+1] += early
			i++
		}
		heard(t, "with bits that are not halved", pulses, list)
	}
}
