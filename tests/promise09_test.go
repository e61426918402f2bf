package tests

import (
	"testing"

	"loop.example/g00644/impl"
)

// written selects a register by any number that tells it, and writes.
func written(t *testing.T, p impl.Psg, register, v int) impl.Psg {
	t.Helper()
	x, first := impl.SelectReg(p, register)
	y, second := impl.WriteReg(x, v)
	if first != impl.OK || second != impl.OK || !impl.PsgOK(y) {
		t.Fatal("of", p, "writing", v, "to", register, "is", y, first, second)
	}
	return y
}

// All registers are written to, ticks go by, others are written to: each tells what came last, but for its bits.
func TestPromise9WrittenIsRead(t *testing.T) {
	for seed := range 6 {
		l := lot(900 + seed)
		p, code := impl.NewPsg(), impl.OK
		holds := [8]int{3: 15}
		for range 600 {
			register, v := l.below(256), l.below(256)
			p = written(t, p, register, v)
			holds[register%8] = v % (regMosts()[register%8] + 1)
			if x, code := impl.ReadReg(p); x != holds[register%8] || code != impl.OK {
				t.Fatal("behind writing", v, "to", register, "ReadReg is", x, code)
			}
			if p, code = impl.StepPsg(p, l.below(60)); code != impl.OK {
				t.Fatal("StepPsg is", p, code)
			}
			for r, want := range holds {
				x, _ := impl.SelectReg(p, r)
				if v, code := impl.ReadReg(x); v != want || code != impl.OK {
					t.Fatal("register", r, "holds", want, "and ReadReg is", v, code)
				}
			}
		}
	}
}

// A tone of each period turns about after just so many ticks, and after as many again.
func TestPromise9Tones(t *testing.T) {
	for channel := range 2 {
		for period := range 256 {
			each := max(period, 1)
			p := written(t, impl.NewPsg(), channel, period)
			for turn := range 6 {
				before := stepped(t, p, each-1)
				if before.Out[channel] != p.Out[channel] {
					t.Error("tone", channel, "of period", period, "has turned about ahead of turn", turn)
				}
				p = stepped(t, p, each)
				if p.Out[channel] != (turn%2 == 0) {
					t.Error("tone", channel, "of period", period, "has not turned about at turn", turn)
				}
			}
		}
	}
}

// From any state on the first turn comes after what is left, and then each so many ticks.
func TestPromise9TonesFromAnyState(t *testing.T) {
	l := lot(910)
	for range 300 {
		p := l.somePsg()
		for channel := range 2 {
			each := max(p.Regs[channel], 1)
			left := max(each-p.Count[channel], 1)
			for range 3 {
				next := stepped(t, p, left)
				if stepped(t, p, left-1).Out[channel] != p.Out[channel] || next.Out[channel] == p.Out[channel] {
					t.Error("of", p, "tone", channel, "does not turn about after just", left, "ticks")
				}
				p, left = next, each
			}
		}
	}
}

// The noise goes through all numbers of 17 bits but 0, and is back at the first one only then.
func TestPromise9NoiseGoesOn(t *testing.T) {
	p := impl.NewPsg()
	seen := make([]bool, 1<<17)
	for n := range 1<<17 - 1 {
		if p.Shift < 1 || p.Shift >= 1<<17 || seen[p.Shift] {
			t.Fatal("after", n, "turns Shift is", p.Shift)
		}
		seen[p.Shift] = true
		p, _ = impl.StepPsg(p, 1)
	}
	if p.Shift != 1 {
		t.Error("after a whole round Shift is", p.Shift)
	}
}

// Whatever the state, within 17 turns of the noise it is heard: bit 0 of Shift is on.
func TestPromise9NoiseIsHeard(t *testing.T) {
	l := lot(920)
	for range 300 {
		p := l.somePsg()
		p.Regs[3], p.Regs[4], p.Regs[5] = 11, 7, 0
		heard := false
		for range 18 {
			level, code := impl.LevelOf(p)
			if code != impl.OK || level != 0 && level != 7 {
				t.Fatal("of", p, "LevelOf is", level, code)
			}
			heard = heard || level == 7
			p = stepped(t, p, max(p.Regs[2], 1))
		}
		if !heard {
			t.Error("no noise in 18 turns up to", p)
		}
	}
}
