package tests

import (
	"fmt"
	"strconv"
	"strings"
	"testing"

	"loop.example/g00644/impl"
)

// shiftWritten is the noise's turn on the 17 digits of Shift: bit 0 is the last of them, bit 3 the fourth from behind.
func shiftWritten(shift int) int {
	digits := fmt.Sprintf("%017b", shift)
	first := "0"
	if digits[16] != digits[13] {
		first = "1"
	}
	v, err := strconv.ParseInt(first+digits[:16], 2, 64)
	if err != nil {
		panic(err)
	}
	return int(v)
}

// envWritten is the envelope's turn, by shapes and by Env ahead of it.
func envWritten(shape, env int) int {
	switch {
	case env == 31:
		return 0
	case env < 15 || shape == 3:
		return env + 1
	}
	return [3]int{15, 15, 0}[shape]
}

// A chipBench is a second sound chip, which tells whether a counter has come to its turn, and does the turn elsewhere.
type chipBench struct{ p impl.Psg }

func comesRound(counter *int, period int) bool {
	if period == 0 {
		period = 1
	}
	if *counter+1 >= period {
		*counter = 0
		return true
	}
	*counter++
	return false
}

func (b *chipBench) tick() {
	p := &b.p
	if comesRound(&p.Count[0], p.Regs[0]) {
		p.Out[0] = !p.Out[0]
	}
	if comesRound(&p.Count[1], p.Regs[1]) {
		p.Out[1] = !p.Out[1]
	}
	if comesRound(&p.Noise, p.Regs[2]) {
		p.Shift = shiftWritten(p.Shift)
	}
	if comesRound(&p.EnvCount, p.Regs[6]) {
		p.Env = envWritten(p.Regs[7], p.Env)
	}
}

func benchAfter(p impl.Psg, n int) impl.Psg {
	b := chipBench{p}
	for range n {
		b.tick()
	}
	return b.p
}

// stepped asks for n ticks from a right chip on, which stays as it was.
func stepped(t *testing.T, p impl.Psg, n int) impl.Psg {
	t.Helper()
	given := p
	x, code := impl.StepPsg(p, n)
	if code != impl.OK || !impl.PsgOK(x) {
		t.Fatal("of", given, "StepPsg", n, "is", x, code)
	}
	if p != given {
		t.Fatal("StepPsg changes", given, "to", p)
	}
	return x
}

func checkTicks(t *testing.T, p impl.Psg, n int) {
	t.Helper()
	if x, want := stepped(t, p, n), benchAfter(p, n); x != want {
		t.Error("of", p, "StepPsg", n, "is", x, "not", want)
	}
}

func somePeriods() []int { return []int{0, 1, 2, 3, 16, 31, 254, 255} }

func TestStepPsgOfNoTicks(t *testing.T) {
	l := lot(100)
	list := []impl.Psg{impl.NewPsg(), {Shift: 1}, fullPsg(), unlikePsg()}
	for range 200 {
		list = append(list, l.somePsg())
	}
	for _, p := range list {
		if x := stepped(t, p, 0); x != p {
			t.Error("of", p, "StepPsg 0 is", x)
		}
	}
}

func TestStepPsgOfManyStates(t *testing.T) {
	l := lot(101)
	for range 3000 {
		p := l.somePsg()
		checkTicks(t, p, 1)
		checkTicks(t, p, 1+l.below(40))
	}
	for range 100 {
		checkTicks(t, l.somePsg(), 1000)
		checkTicks(t, l.somePsg(), 999)
	}
}

func TestStepPsgInParts(t *testing.T) {
	l := lot(102)
	for _, p := range []impl.Psg{impl.NewPsg(), fullPsg(), unlikePsg(), l.somePsg(), l.somePsg()} {
		one := p
		for n := range 1001 {
			if x := stepped(t, p, n); x != one {
				t.Fatal("of", p, n, "ticks at once are", x, "one by one", one)
			}
			if y := stepped(t, one, 1000-n); y != stepped(t, p, 1000) {
				t.Fatal("of", p, "1000 ticks in parts of", n, "and the rest are", y)
			}
			one = stepped(t, one, 1)
		}
	}
}

// Each of the four counters, from each count on that it may have: one below its period goes on, all others begin again.
func TestStepPsgOfEachCounter(t *testing.T) {
	for _, period := range somePeriods() {
		for count := range 256 {
			after, turns := count+1, count+1 >= max(period, 1)
			if turns {
				after = 0
			}
			for channel := range 2 {
				p := still()
				p.Regs[channel], p.Count[channel] = period, count
				want := counting(p)
				want.Count[channel], want.Out[channel] = after, turns != p.Out[channel]
				checkOneTick(t, p, want)
			}
			p := still()
			p.Regs[6], p.EnvCount = period, count
			want := counting(p)
			want.EnvCount = after
			if turns {
				want.Env = 8
			}
			checkOneTick(t, p, want)
		}
	}
}

func TestStepPsgOfTheNoisesCounter(t *testing.T) {
	for period := range 32 {
		for count := range 32 {
			p := still()
			p.Regs[2], p.Noise = period, count
			want := counting(p)
			if count+1 >= max(period, 1) {
				want.Noise, want.Shift = 0, 65536+32768
			}
			checkOneTick(t, p, want)
		}
	}
}

// still has no counter that comes to its turn with the next tick.
func still() impl.Psg {
	return impl.Psg{Regs: [8]int{255, 255, 31, 9, 13, 22, 255, 2}, Select: 5, Count: [2]int{70, 80}, Out: [2]bool{false, true}, Noise: 11, Shift: 65536 + 1, Env: 7, EnvCount: 33}
}

// counting is p after a tick with which nothing comes to its turn.
func counting(p impl.Psg) impl.Psg {
	p.Count[0]++
	p.Count[1]++
	p.Noise++
	p.EnvCount++
	return p
}

func checkOneTick(t *testing.T, p, want impl.Psg) {
	t.Helper()
	if x := stepped(t, p, 1); x != want {
		t.Error("of", p, "StepPsg 1 is", x, "not", want)
	}
}

// tonePsg has one channel's tone of this period, from its beginning on.
func tonePsg(channel, period int) impl.Psg {
	p := impl.NewPsg()
	p.Regs[channel] = period
	return p
}

func TestTonesTickByTick(t *testing.T) {
	for channel := range 2 {
		for _, period := range somePeriods() {
			each := max(period, 1)
			p := tonePsg(channel, period)
			for n := range 1001 {
				x := stepped(t, p, n)
				if x.Count[channel] != n%each || x.Out[channel] != (n/each%2 == 1) {
					t.Error("tone", channel, "of period", period, "after", n, "ticks is", x.Count[channel], x.Out[channel])
				}
			}
		}
	}
}

// Both tones at once, with periods of their own: neither has anything of the other.
func TestTonesApart(t *testing.T) {
	for _, first := range somePeriods() {
		for _, second := range somePeriods() {
			p := tonePsg(0, first)
			p.Regs[1] = second
			for _, n := range []int{1, 2, 3, 254, 255, 256, 510, 511, 1000} {
				x := stepped(t, p, n)
				a, b := max(first, 1), max(second, 1)
				if x.Count != [2]int{n % a, n % b} || x.Out != [2]bool{n/a%2 == 1, n/b%2 == 1} {
					t.Error("tones of", first, second, "after", n, "ticks are", x.Count, x.Out)
				}
			}
		}
	}
}

// A period that is written below the count is met with the next tick, not only after going round.
func TestPeriodsBelowTheCount(t *testing.T) {
	p := stepped(t, tonePsg(0, 255), 200)
	p.Select = 0
	p, _ = impl.WriteReg(p, 10)
	if p.Count[0] != 200 || p.Out[0] {
		t.Fatal("after 200 ticks Count and Out are", p.Count[0], p.Out[0])
	}
	if p = stepped(t, p, 1); p.Count[0] != 0 || !p.Out[0] {
		t.Error("the tick behind is", p.Count[0], p.Out[0])
	}
	if p = stepped(t, p, 9); p.Count[0] != 9 || !p.Out[0] {
		t.Error("nine ticks on it is", p.Count[0], p.Out[0])
	}
	if p = stepped(t, p, 1); p.Count[0] != 0 || p.Out[0] {
		t.Error("ten ticks on it is", p.Count[0], p.Out[0])
	}
}

// Each single bit, each pair of bits, and none but each: what goes out, what comes in, and what moves.
func TestShiftBitByBit(t *testing.T) {
	for a := range 17 {
		for b := range 17 {
			for _, shift := range []int{1<<a | 1<<b, 131071 &^ (1<<a | 1<<b)} {
				p := impl.NewPsg()
				p.Shift = shift
				if x := stepped(t, p, 1); x.Shift != shiftWritten(shift) {
					t.Errorf("Shift %017b turns to %017b", shift, x.Shift)
				}
			}
		}
	}
	for shift, want := range map[int]int{1: 65536, 2: 1, 3: 65537, 4: 2, 8: 65540, 9: 4, 16: 8, 65536: 32768, 131071: 65535, 131070: 131071, 131063: 131067, 131062: 65531} {
		p := impl.NewPsg()
		p.Shift = shift
		if x := stepped(t, p, 1); x.Shift != want {
			t.Error("Shift", shift, "turns to", x.Shift, "not", want)
		}
	}
}

func TestNoiseByItsPeriod(t *testing.T) {
	for _, period := range []int{0, 1, 2, 3, 30, 31} {
		each := max(period, 1)
		p := impl.NewPsg()
		p.Regs[2] = period
		shift := p.Shift
		for n := range 1001 {
			if n > 0 && n%each == 0 {
				shift = shiftWritten(shift)
			}
			if x := stepped(t, p, n); x.Shift != shift || x.Noise != n%each {
				t.Error("noise of period", period, "after", n, "ticks is", x.Noise, x.Shift)
			}
		}
	}
}

// envRounds are Env by turns from 0 on, over three rounds of 32.
func envRounds(shape int) []int {
	var list []int
	for turn := range 96 {
		once := min(turn, 15)
		list = append(list, [4]int{once, once, turn % 16, turn % 32}[shape])
	}
	return list
}

// levelWritten is what the envelope's volume is, as hexadecimal digits by Env.
func levelWritten(shape, env int) int {
	digits := [4]string{"fedcba9876543210fedcba9876543210", "0123456789abcdef0123456789abcdef", "fedcba9876543210fedcba9876543210", "0123456789abcdeffedcba9876543210"}[shape]
	return strings.IndexByte("0123456789abcdef", digits[env])
}

// Each shape over three rounds, by ticks of each period, the level being asked at each turn and just ahead of it.
func TestEnvelopeOverRounds(t *testing.T) {
	for shape := range 4 {
		for _, period := range somePeriods() {
			each := max(period, 1)
			p := impl.NewPsg()
			p.Regs[4], p.Regs[6], p.Regs[7] = 16, period, shape
			for turn, env := range envRounds(shape) {
				for _, ahead := range []int{0, each - 1} {
					x := stepped(t, p, ahead)
					level, code := impl.LevelOf(x)
					if x.Env != env || x.EnvCount != ahead || level != levelWritten(shape, env) || code != impl.OK {
						t.Error("shape", shape, "period", period, "turn", turn, "and", ahead, "ticks:", x.Env, x.EnvCount, level, code)
					}
				}
				p = stepped(t, p, each)
			}
		}
	}
}

// From each Env on, those that a shape does not come to by itself too.
func TestEnvelopeOfEachEnv(t *testing.T) {
	for shape := range 4 {
		for env := range 32 {
			p := unlikePsg()
			p.Regs[6], p.Regs[7], p.Env, p.EnvCount = 0, shape, env, 0
			if x := stepped(t, p, 1); x.Env != envWritten(shape, env) {
				t.Error("of shape", shape, "Env", env, "turns to", x.Env)
			}
		}
	}
	for _, c := range []struct{ shape, env, want int }{
		{0, 14, 15}, {0, 15, 15}, {0, 16, 15}, {0, 30, 15}, {0, 31, 0},
		{1, 14, 15}, {1, 15, 15}, {1, 16, 15}, {1, 30, 15}, {1, 31, 0},
		{2, 14, 15}, {2, 15, 0}, {2, 16, 0}, {2, 30, 0}, {2, 31, 0},
		{3, 14, 15}, {3, 15, 16}, {3, 16, 17}, {3, 30, 31}, {3, 31, 0},
	} {
		p := impl.Psg{Shift: 1, Regs: [8]int{7: c.shape}, Env: c.env}
		if x := stepped(t, p, 1); x.Env != c.want {
			t.Error("of shape", c.shape, "Env", c.env, "turns to", x.Env, "not", c.want)
		}
	}
}
