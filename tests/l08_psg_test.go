package tests

import (
	"fmt"
	"math"
	"testing"

	"loop.example/g00644/impl"
)

// regMosts are the greatest numbers that the registers have.
func regMosts() [8]int { return [8]int{255, 255, 31, 15, 31, 31, 255, 3} }

// A psgPlace is a number of a sound chip, with the least and the greatest that is right.
type psgPlace struct {
	name        string
	at          *int
	least, most int
}

func psgPlaces(p *impl.Psg) []psgPlace {
	var list []psgPlace
	for r, most := range regMosts() {
		list = append(list, psgPlace{fmt.Sprint("register ", r), &p.Regs[r], 0, most})
	}
	return append(list,
		psgPlace{"Select", &p.Select, 0, 7},
		psgPlace{"Count 0", &p.Count[0], 0, 255},
		psgPlace{"Count 1", &p.Count[1], 0, 255},
		psgPlace{"Noise", &p.Noise, 0, 31},
		psgPlace{"Shift", &p.Shift, 1, 131071},
		psgPlace{"Env", &p.Env, 0, 31},
		psgPlace{"EnvCount", &p.EnvCount, 0, 255})
}

// fullPsg has the greatest number in each place.
func fullPsg() impl.Psg {
	p := impl.Psg{Out: [2]bool{true, true}}
	for _, place := range psgPlaces(&p) {
		*place.at = place.most
	}
	return p
}

// unlikePsg has another number in each place, and none of them at an end.
func unlikePsg() impl.Psg {
	return impl.Psg{Regs: [8]int{200, 100, 20, 9, 13, 22, 50, 2}, Select: 5, Count: [2]int{70, 80}, Out: [2]bool{false, true}, Noise: 11, Shift: 90123, Env: 7, EnvCount: 33}
}

func (l *lot) somePsg() impl.Psg {
	p := impl.Psg{Out: [2]bool{l.below(2) == 0, l.below(2) == 0}}
	for _, place := range psgPlaces(&p) {
		switch l.below(4) {
		case 0:
			*place.at = place.least + l.below(min(4, place.most-place.least+1))
		case 1:
			*place.at = place.most - l.below(min(4, place.most-place.least+1))
		default:
			*place.at = place.least + l.below(place.most-place.least+1)
		}
	}
	return p
}

// psgsBeyond have one fault each, in each place by numbers far and near.
func psgsBeyond() []impl.Psg {
	var list []impl.Psg
	for _, right := range []impl.Psg{{Shift: 1}, impl.NewPsg(), fullPsg(), unlikePsg()} {
		for i, place := range psgPlaces(&right) {
			far := []int{math.MinInt, -1 << 32, -256, -place.most, place.least - 2, place.least - 1, place.most + 1, place.most + 2, 2*place.most + 2, 1 << 17, 1<<32 + 1, math.MaxInt}
			for _, v := range far {
				wrong := right
				*psgPlaces(&wrong)[i].at = v
				list = append(list, wrong)
			}
		}
	}
	return list
}

func TestNewPsg(t *testing.T) {
	if impl.PsgRegs != 8 {
		t.Error("PsgRegs is", impl.PsgRegs)
	}
	p := impl.NewPsg()
	for r, want := range [8]int{0, 0, 0, 15, 0, 0, 0, 0} {
		if p.Regs[r] != want {
			t.Error("register", r, "of a new chip is", p.Regs[r])
		}
	}
	if p.Shift != 1 {
		t.Error("Shift of a new chip is", p.Shift)
	}
	if p.Select != 0 || p.Count != [2]int{} || p.Out != [2]bool{} || p.Noise != 0 || p.Env != 0 || p.EnvCount != 0 {
		t.Error("a new chip is", p)
	}
	if !impl.PsgOK(p) {
		t.Error("PsgOK is false of a new chip")
	}
	p.Regs[3], p.Shift, p.Select = 1, 2, 3
	if q := impl.NewPsg(); q.Regs != [8]int{3: 15} || q.Shift != 1 || q.Select != 0 {
		t.Error("after a new chip was written to, a new one is", q)
	}
}

func TestRightPsgs(t *testing.T) {
	for _, p := range []impl.Psg{{Shift: 1}, impl.NewPsg(), fullPsg(), unlikePsg(), {Shift: 65536, Out: [2]bool{true, false}}} {
		for i, place := range psgPlaces(&p) {
			for v := place.least; v <= place.most; v++ {
				right := p
				*psgPlaces(&right)[i].at = v
				if !impl.PsgOK(right) {
					t.Error("with", place.name, v, "PsgOK is false of", right)
				}
			}
		}
	}
}

func TestPsgOKJustOutside(t *testing.T) {
	for _, p := range []impl.Psg{impl.NewPsg(), fullPsg(), unlikePsg()} {
		for i, place := range psgPlaces(&p) {
			for v, want := range map[int]bool{place.least - 1: false, place.least: true, place.most: true, place.most + 1: false} {
				x := p
				*psgPlaces(&x)[i].at = v
				if impl.PsgOK(x) != want {
					t.Error("with", place.name, v, "PsgOK is", !want, "of", x)
				}
			}
		}
	}
}

// wantNoPsg asks the calls that take a number for one code, with all else zero.
func wantNoPsg(t *testing.T, p impl.Psg, v, n, want int) {
	t.Helper()
	given := p
	if x, code := impl.SelectReg(p, v); x != (impl.Psg{}) || code != want {
		t.Error("of", given, "SelectReg", v, "is", x, code)
	}
	if x, code := impl.WriteReg(p, v); x != (impl.Psg{}) || code != want {
		t.Error("of", given, "WriteReg", v, "is", x, code)
	}
	if x, code := impl.StepPsg(p, n); x != (impl.Psg{}) || code != want {
		t.Error("of", given, "StepPsg", n, "is", x, code)
	}
	if p != given {
		t.Fatal("a wrong call changes", given, "to", p)
	}
}

// A chip that is not right comes ahead of a number out of its bounds.
func TestWrongPsgs(t *testing.T) {
	for _, p := range append(psgsBeyond(), impl.Psg{}) {
		if impl.PsgOK(p) {
			t.Error("PsgOK of", p)
		}
		for _, v := range [][2]int{{0, 0}, {1, 1}, {255, 1000}, {-1, -1}, {256, 1001}, {math.MinInt, math.MaxInt}} {
			wantNoPsg(t, p, v[0], v[1], impl.ErrBad)
		}
		if v, code := impl.ReadReg(p); v != 0 || code != impl.ErrBad {
			t.Error("of", p, "ReadReg is", v, code)
		}
		if v, code := impl.LevelOf(p); v != 0 || code != impl.ErrBad {
			t.Error("of", p, "LevelOf is", v, code)
		}
	}
}

// Numbers that would be right ones if they were cut off are among these.
func TestNumbersBesidePsgs(t *testing.T) {
	l := lot(90)
	ticks := []int{-1, 1001, -2, -1000, -1001, 1002, 1024, 2000, 65536, 1 << 32, 1<<32 + 1, math.MinInt, math.MinInt + 1, math.MaxInt}
	for i, v := range append(noBytes(), -255, -8, -2, 258, 511, 512, 1<<32+7, math.MinInt+1, math.MaxInt-1) {
		n := ticks[i%len(ticks)]
		for _, p := range []impl.Psg{{Shift: 1}, impl.NewPsg(), fullPsg(), l.somePsg(), l.somePsg()} {
			wantNoPsg(t, p, v, n, impl.ErrRange)
		}
	}
	for _, n := range ticks {
		if x, code := impl.StepPsg(fullPsg(), n); x != (impl.Psg{}) || code != impl.ErrRange {
			t.Error("StepPsg", n, "is", x, code)
		}
	}
}

func TestSelectRegOfEachByte(t *testing.T) {
	l := lot(91)
	for before := range 8 {
		for _, p := range []impl.Psg{impl.NewPsg(), fullPsg(), unlikePsg(), l.somePsg(), l.somePsg()} {
			p.Select = before
			given := p
			for v := range 256 {
				want := given
				want.Select = v % 8
				if x, code := impl.SelectReg(p, v); x != want || code != impl.OK {
					t.Error("of", given, "SelectReg", v, "is", x, code)
				}
			}
			if p != given {
				t.Fatal("SelectReg changes", given, "to", p)
			}
		}
	}
}

// Register 7 alone begins the envelope anew, whatever is written to it, what it holds already too.
func TestWriteRegOfEachByte(t *testing.T) {
	l := lot(92)
	for r, most := range regMosts() {
		for _, p := range []impl.Psg{impl.NewPsg(), {Shift: 1}, fullPsg(), unlikePsg(), l.somePsg(), l.somePsg()} {
			p.Select = r
			given := p
			for v := range 256 {
				want := given
				want.Regs[r] = v % (most + 1)
				if r == 7 {
					want.Env, want.EnvCount = 0, 0
				}
				x, code := impl.WriteReg(p, v)
				if x != want || code != impl.OK {
					t.Error("of", given, "WriteReg", v, "is", x, code)
				}
				if !impl.PsgOK(x) {
					t.Error("of", given, "PsgOK is false behind WriteReg", v)
				}
			}
			if p != given {
				t.Fatal("WriteReg changes", given, "to", p)
			}
		}
	}
}

func TestWriteRegWrittenOut(t *testing.T) {
	for _, c := range []struct{ r, v, want int }{
		{0, 255, 255}, {1, 255, 255}, {1, 128, 128}, {2, 31, 31}, {2, 32, 0}, {2, 255, 31},
		{3, 15, 15}, {3, 16, 0}, {3, 165, 5}, {4, 16, 16}, {4, 31, 31}, {4, 32, 0}, {4, 255, 31},
		{5, 16, 16}, {5, 48, 16}, {5, 255, 31}, {6, 255, 255}, {6, 128, 128}, {7, 3, 3}, {7, 4, 0}, {7, 254, 2},
	} {
		p := fullPsg()
		p.Select = c.r
		x, code := impl.WriteReg(p, c.v)
		if x.Regs[c.r] != c.want || code != impl.OK {
			t.Error("register", c.r, "behind WriteReg", c.v, "is", x.Regs[c.r], code)
		}
		if begun := x.Env == 0 && x.EnvCount == 0; begun != (c.r == 7) {
			t.Error("behind WriteReg", c.v, "of register", c.r, "Env and EnvCount are", x.Env, x.EnvCount)
		}
	}
}

func TestReadRegOfEachRegister(t *testing.T) {
	for r, most := range regMosts() {
		for _, p := range []impl.Psg{impl.NewPsg(), fullPsg(), unlikePsg()} {
			p.Select = r
			for v := range most + 1 {
				p.Regs[r] = v
				given := p
				if x, code := impl.ReadReg(p); x != v || code != impl.OK {
					t.Error("of", given, "ReadReg is", x, code)
				}
				if p != given {
					t.Fatal("ReadReg changes", given, "to", p)
				}
			}
		}
	}
	for r, want := range unlikePsg().Regs {
		p := unlikePsg()
		p.Select = r
		if x, code := impl.ReadReg(p); x != want || code != impl.OK {
			t.Error("ReadReg of register", r, "is", x, code)
		}
	}
}
