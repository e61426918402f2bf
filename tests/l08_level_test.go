package tests

import (
	"testing"

	"loop.example/g00644/impl"
)

// channelWritten is one channel's part of the level; its bits of register 3 are taken by division.
func channelWritten(p impl.Psg, channel int) int {
	off := p.Regs[3]
	toneOff, noiseOff := off%2 == 1, off/4%2 == 1
	if channel == 1 {
		toneOff, noiseOff = off/2%2 == 1, off/8%2 == 1
	}
	if !toneOff && !p.Out[channel] || !noiseOff && p.Shift%2 == 0 {
		return 0
	}
	if v := p.Regs[4+channel]; v < 16 {
		return v
	}
	return levelWritten(p.Regs[7], p.Env)
}

func checkLevel(t *testing.T, p impl.Psg) {
	t.Helper()
	given := p
	want := channelWritten(p, 0) + channelWritten(p, 1)
	if v, code := impl.LevelOf(p); v != want || code != impl.OK {
		t.Error("of", given, "LevelOf is", v, code, "not", want)
	}
	if p != given {
		t.Fatal("LevelOf changes", given, "to", p)
	}
}

// eachGate goes through what is on and off: all of register 3, both Outs, and bit 0 of Shift among others.
func eachGate(p impl.Psg, with func(p impl.Psg)) {
	for off := range 16 {
		for outs := range 4 {
			for _, shift := range []int{1, 2, 65536, 65537, 131070, 131071} {
				p.Regs[3], p.Out, p.Shift = off, [2]bool{outs%2 == 1, outs/2 == 1}, shift
				with(p)
			}
		}
	}
}

func TestLevelOfEachGate(t *testing.T) {
	for first := range 32 {
		for _, second := range []int{0, 1, 8, 15, 16, 17, 31} {
			for _, volumes := range [][2]int{{first, second}, {second, first}} {
				p := unlikePsg()
				p.Regs[4], p.Regs[5] = volumes[0], volumes[1]
				eachGate(p, func(p impl.Psg) { checkLevel(t, p) })
			}
		}
	}
}

func TestLevelOfEachEnvelope(t *testing.T) {
	for shape := range 4 {
		for env := range 32 {
			for _, volumes := range [][2]int{{16, 0}, {0, 16}, {16, 16}, {31, 5}, {5, 31}, {16, 15}, {15, 24}, {7, 9}} {
				p := unlikePsg()
				p.Regs[4], p.Regs[5], p.Regs[7], p.Env = volumes[0], volumes[1], shape, env
				eachGate(p, func(p impl.Psg) { checkLevel(t, p) })
			}
		}
	}
}

func TestLevelOfManyStates(t *testing.T) {
	l := lot(110)
	for range 20000 {
		checkLevel(t, l.somePsg())
	}
}

func TestLevelWrittenOut(t *testing.T) {
	for _, c := range []struct {
		name        string
		off         int
		outs        [2]bool
		shift       int
		first, last int
		want        int
	}{
		{"all is off, so both are heard", 15, [2]bool{}, 2, 6, 9, 15},
		{"both at their loudest", 15, [2]bool{}, 2, 15, 15, 30},
		{"the first tone is low", 14, [2]bool{false, true}, 2, 6, 9, 9},
		{"the first tone is high", 14, [2]bool{true, false}, 2, 6, 9, 15},
		{"the second tone is low", 13, [2]bool{true, false}, 2, 6, 9, 6},
		{"the second tone is high", 13, [2]bool{false, true}, 2, 6, 9, 15},
		{"the first's noise is low", 11, [2]bool{true, true}, 2, 6, 9, 9},
		{"the first's noise is high", 11, [2]bool{}, 3, 6, 9, 15},
		{"the second's noise is low", 7, [2]bool{true, true}, 2, 6, 9, 6},
		{"the second's noise is high", 7, [2]bool{}, 3, 6, 9, 15},
		{"all is on, all is high", 0, [2]bool{true, true}, 1, 6, 9, 15},
		{"all is on, the noise is low", 0, [2]bool{true, true}, 131070, 6, 9, 0},
		{"all is on, the tones are low", 0, [2]bool{}, 131071, 6, 9, 0},
		{"all is on, one tone is high", 0, [2]bool{true, false}, 1, 6, 9, 6},
		{"all is on, the other one is high", 0, [2]bool{false, true}, 1, 6, 9, 9},
		{"silent ones", 15, [2]bool{true, true}, 1, 0, 0, 0},
		{"the first by the envelope, which is 15", 15, [2]bool{}, 1, 16, 9, 24},
		{"the envelope does not add to the volume", 15, [2]bool{}, 1, 16 + 6, 9, 24},
		{"the second by the envelope", 15, [2]bool{}, 1, 6, 16, 21},
		{"both by the envelope", 15, [2]bool{}, 1, 31, 16, 30},
		{"the envelope of a low tone", 14, [2]bool{}, 1, 16, 0, 0},
	} {
		p := impl.Psg{Regs: [8]int{3: c.off, 4: c.first, 5: c.last}, Out: c.outs, Shift: c.shift}
		if v, code := impl.LevelOf(p); v != c.want || code != impl.OK {
			t.Error(c.name, "but LevelOf is", v, code, "not", c.want)
		}
	}
}

func TestEnvelopeLevelsAtTheirEnds(t *testing.T) {
	for _, c := range []struct{ shape, env, want int }{
		{0, 0, 15}, {0, 1, 14}, {0, 15, 0}, {0, 16, 15}, {0, 31, 0},
		{1, 0, 0}, {1, 1, 1}, {1, 15, 15}, {1, 16, 0}, {1, 31, 15},
		{2, 0, 15}, {2, 1, 14}, {2, 15, 0}, {2, 16, 15}, {2, 31, 0},
		{3, 0, 0}, {3, 1, 1}, {3, 15, 15}, {3, 16, 15}, {3, 17, 14}, {3, 31, 0},
	} {
		for channel := range 2 {
			p := impl.NewPsg()
			p.Regs[4+channel], p.Regs[7], p.Env = 16, c.shape, c.env
			if v, code := impl.LevelOf(p); v != c.want || code != impl.OK {
				t.Error("of channel", channel, "shape", c.shape, "Env", c.env, "LevelOf is", v, code)
			}
		}
	}
}
