package tests

import (
	"fmt"
	"math"
	"slices"
	"testing"

	"loop.example/g00644/impl"
)

// rightActs are all that there are.
func rightActs() []impl.Act {
	list := []impl.Act{{Kind: 3}, {Kind: 4}, {Kind: 5}, {Kind: 7}, {Kind: 8}}
	for row := range 8 {
		for key := range 5 {
			list = append(list, impl.Act{Kind: 1, A: row, B: key}, impl.Act{Kind: 1, A: row, B: key, Down: true})
		}
	}
	for joy := range 32 {
		list = append(list, impl.Act{Kind: 2, A: joy})
	}
	for n := range 7 {
		list = append(list, impl.Act{Kind: 6, A: n})
	}
	return list
}

// wrongActs have one fault each: no such kind, a number out of its bounds, or one that the kind has no use for.
func wrongActs() []impl.Act {
	list := []impl.Act{{}, {Down: true}, {A: 1}}
	for _, kind := range append(farNumbers(1, 8), 0, 9, 10) {
		list = append(list, impl.Act{Kind: kind}, impl.Act{Kind: kind, A: 1}, impl.Act{Kind: kind, A: 1, B: 1, Down: true})
	}
	for _, down := range []bool{false, true} {
		for _, v := range farNumbers(0, 7) {
			list = append(list, impl.Act{Kind: 1, A: v, Down: down}, impl.Act{Kind: 1, A: v, B: 4, Down: down})
		}
		for _, v := range farNumbers(0, 4) {
			list = append(list, impl.Act{Kind: 1, B: v, Down: down}, impl.Act{Kind: 1, A: 7, B: v, Down: down})
		}
	}
	for _, v := range farNumbers(0, 31) {
		list = append(list, impl.Act{Kind: 2, A: v})
	}
	for _, v := range farNumbers(0, 6) {
		list = append(list, impl.Act{Kind: 6, A: v})
	}
	for kind := 2; kind <= 8; kind++ {
		for _, v := range []int{math.MinInt, -1, 1, 2, 4, 256, 1 << 32, math.MaxInt} {
			list = append(list, impl.Act{Kind: kind, B: v})
			if kind != 2 && kind != 6 {
				list = append(list, impl.Act{Kind: kind, A: v})
			}
		}
		list = append(list, impl.Act{Kind: kind, Down: true})
	}
	return list
}

func TestRightActs(t *testing.T) {
	for _, a := range rightActs() {
		if !impl.ActOK(a) {
			t.Error("ActOK is false of", a)
		}
	}
}

func TestWrongActs(t *testing.T) {
	for _, a := range wrongActs() {
		if impl.ActOK(a) {
			t.Error("ActOK of", a)
		}
		for _, m := range []impl.Machine{newMachine(longText(64)), plainMachine()} {
			x, code := impl.ActDo(m, a)
			checkMachine(t, fmt.Sprint("ActDo of ", a), x, code, impl.Machine{}, impl.ErrBad)
		}
	}
}

// All small numbers in each place: an act is right if it is one of those that are.
func TestActOKOfSmallNumbers(t *testing.T) {
	right := map[impl.Act]int{}
	for _, a := range rightActs() {
		right[a]++
	}
	for kind := -2; kind <= 11; kind++ {
		for a := -2; a <= 34; a++ {
			for b := -2; b <= 9; b++ {
				for _, down := range []bool{false, true} {
					act := impl.Act{Kind: kind, A: a, B: b, Down: down}
					if impl.ActOK(act) != (right[act] == 1) {
						t.Error("ActOK of", act, "is", impl.ActOK(act))
					}
				}
			}
		}
	}
}

func tapeActWritten(m *impl.Machine, kind int) int {
	d := &m.Deck
	switch kind {
	case 3:
		if d.Index == len(d.Pulses) {
			return impl.ErrEnd
		}
		d.Plays = true
	case 4:
		if !d.Plays {
			return impl.ErrStopped
		}
		d.Plays = false
	case 5:
		*d = impl.Deck{Pulses: d.Pulses}
		if len(d.Pulses) > 0 {
			d.Left = d.Pulses[0]
		}
	}
	return impl.OK
}

// actWritten is the chapter's sentence, act by act.
func actWritten(m impl.Machine, a impl.Act) (impl.Machine, int) {
	x := copyMachine(m)
	switch a.Kind {
	case 1:
		x.Ports.Keys[a.A] |= 1 << a.B
		if a.Down {
			x.Ports.Keys[a.A] -= 1 << a.B
		}
	case 2:
		x.Ports.Joy = a.A
	case 3, 4, 5:
		return x, tapeActWritten(&x, a.Kind)
	case 6:
		for range a.A {
			var code int
			if x, code = frameWritten(x); code != impl.OK {
				return m, code
			}
		}
	case 7:
		x.Saved = snapWritten(impl.Snap{Cpu: m.Cpu, Memory: m.Memory, Ports: m.Ports})
	case 8:
		if m.Saved == "" {
			return m, impl.ErrNone
		}
		s, code := snapReadWritten(m.Saved, romOf(impl.Snap{Memory: m.Memory}))
		if code != impl.OK {
			return m, code
		}
		x.Cpu, x.Memory, x.Ports = s.Cpu, s.Memory, s.Ports
	}
	return x, impl.OK
}

func checkAct(t *testing.T, m impl.Machine, a impl.Act) (impl.Machine, int) {
	t.Helper()
	want, wantCode := actWritten(m, a)
	got, code := impl.ActDo(m, a)
	checkMachine(t, fmt.Sprint("ActDo of ", a), got, code, want, wantCode)
	if !impl.MachineOK(got) {
		t.Fatal("behind", a, "a machine is not right")
	}
	return got, code
}

func TestEachActOfEachMachine(t *testing.T) {
	codes := map[int]int{}
	for i, m := range rightMachines() {
		for _, a := range rightActs() {
			if a.Kind == 6 && i > 60 {
				continue
			}
			_, code := checkAct(t, m, a)
			codes[code]++
		}
	}
	for _, code := range []int{impl.OK, impl.ErrEnd, impl.ErrStopped, impl.ErrNone, impl.ErrFull, impl.ErrModel} {
		if codes[code] == 0 {
			t.Error("no act had the code", code)
		}
	}
}

func TestActsOnKeysAndJoy(t *testing.T) {
	m := newMachine(longText(64))
	x, _ := checkAct(t, m, impl.Act{Kind: 1, A: 2, B: 4, Down: true})
	if x.Ports.Keys != [8]int{31, 31, 15, 31, 31, 31, 31, 31} {
		t.Error("with key 4 of row 2 down the rows are", x.Ports.Keys)
	}
	x, _ = checkAct(t, x, impl.Act{Kind: 1, A: 2, B: 4, Down: true})
	x, _ = checkAct(t, x, impl.Act{Kind: 1, A: 2, B: 4})
	checkMachine(t, "a key that was down", x, impl.OK, m, impl.OK)
	x, _ = checkAct(t, m, impl.Act{Kind: 2, A: 31})
	if x.Ports.Joy != 31 {
		t.Error("Joy is", x.Ports.Joy)
	}
}

func TestActsOnTheTape(t *testing.T) {
	for _, d := range rightDecks() {
		m := plainMachine()
		m.Deck = d
		for kind := 3; kind <= 5; kind++ {
			checkAct(t, m, impl.Act{Kind: kind})
		}
	}
	m := newMachine(longText(64))
	for i, r := range []struct{ kind, code int }{{4, impl.ErrStopped}, {3, impl.OK}, {3, impl.OK}, {6, impl.OK}, {4, impl.OK}, {4, impl.ErrStopped}, {5, impl.OK}, {4, impl.ErrStopped}, {3, impl.OK}, {5, impl.OK}} {
		x, code := checkAct(t, m, impl.Act{Kind: r.kind})
		if code != r.code {
			t.Error("act", i, r, "has the code", code)
		}
		m = x
	}
	m.Deck = impl.Deck{}
	if _, code := checkAct(t, m, impl.Act{Kind: 3}); code != impl.ErrEnd {
		t.Error("without a tape playing is", code)
	}
}

// AcLoad asks what was saved ahead of what it says, and puts in nothing but processor, memory and ports.
func TestActLoad(t *testing.T) {
	l := lot(1440)
	rom := longText(64)
	for range 300 {
		m := l.someMachine()
		m.Memory.Rom = cellsOf(rom)
		s := l.someSnap()
		m.Saved = snapWritten(s)
		x, code := checkAct(t, m, impl.Act{Kind: 8})
		s.Memory.Rom = cellsOf(rom)
		want := copyMachine(m)
		back := asRead(s)
		want.Cpu, want.Memory, want.Ports = back.Cpu, back.Memory, back.Ports
		checkMachine(t, "AcLoad", x, code, want, impl.OK)
	}
}

func TestActLoadOfTextsThatAreNone(t *testing.T) {
	texts := map[string]int{"": impl.ErrNone, "\x03": impl.ErrEnd, "\x04": impl.ErrEnd, longText(14): impl.ErrEnd, "\x04" + times(14, "\x00"): impl.ErrModel, "\x03" + times(11, "\x00") + "\x02\x00\x00": impl.ErrForm}
	right := snapWritten(plainSnap())
	texts[right[:len(right)-1]] = impl.ErrEnd
	texts[right+"x"] = impl.ErrSize
	texts["\x03"+times(14, "\x00")+"\x01\x00x"] = impl.ErrSize
	for text, want := range texts {
		for _, m := range []impl.Machine{newMachine(longText(64)), plainMachine()} {
			m.Saved = text
			if _, code := checkAct(t, m, impl.Act{Kind: 8}); code != want {
				t.Errorf("AcLoad of %.40x is %d, not %d", text, code, want)
			}
		}
	}
	l := lot(1441)
	for range 2000 {
		m := plainMachine()
		m.Saved = l.spoilt(snapWritten(l.someSnap()))
		checkAct(t, m, impl.Act{Kind: 8})
	}
}

func TestActSave(t *testing.T) {
	for _, s := range rightSnaps() {
		m := plainMachine()
		m.Cpu, m.Memory, m.Ports = s.Cpu, s.Memory, s.Ports
		x, code := checkAct(t, m, impl.Act{Kind: 7})
		want := copyMachine(m)
		want.Saved = snapWritten(s)
		checkMachine(t, "AcSave", x, code, want, impl.OK)
	}
}

// What was saved is as long as it can be where no bank can be compressed but grows; it is still no more than a machine may have.
func TestActSaveOfLongTexts(t *testing.T) {
	grown := times(21, mark+mark+"a") + "b"
	m := plainMachine()
	s := withBanks(plainSnap(), grown, grown, grown, grown)
	m.Memory = s.Memory
	x, _ := checkAct(t, m, impl.Act{Kind: 7})
	if len(x.Saved) != 15+4*(2+21*5+1) || len(x.Saved) > mostSaved {
		t.Error("what is saved is of", len(x.Saved))
	}
}

// Where one frame of several would be too many none is run.
func TestActFrames(t *testing.T) {
	for _, rom := range []string{programs()["stripes"], programs()["counts in the border"]} {
		for ahead := range 9 {
			for n := range impl.MaxFrame + 1 {
				m := newMachine(rom)
				m.Frames, m.Events = lastFrame-ahead, somePlainEvents()
				x, code := checkAct(t, m, impl.Act{Kind: 6, A: n})
				switch {
				case n > ahead:
					checkMachine(t, "too many frames", x, code, m, impl.ErrFull)
				case code != impl.OK || x.Frames != m.Frames+n:
					t.Error(n, "frames from", m.Frames, "come to", x.Frames, code)
				case n == 0:
					checkMachine(t, "no frame", x, code, m, impl.OK)
				}
			}
		}
	}
}

// The frames of an act are as many calls of RunFrame.
func TestActFramesOneByOne(t *testing.T) {
	eachStart(func(name string, m impl.Machine) {
		want := m
		for n := range impl.MaxFrame + 1 {
			x, code := impl.ActDo(m, impl.Act{Kind: 6, A: n})
			checkMachine(t, fmt.Sprint(name, ", frames ", n), x, code, want, impl.OK)
			want, _ = impl.RunFrame(want)
		}
	})
}

func checkActs(t *testing.T, rom string, tape []impl.Block, acts []impl.Act) []int {
	t.Helper()
	want := newMachine(rom)
	want.Deck = impl.Deck{Pulses: tapePulsesWritten(tape...)}
	tapeActWritten(&want, 5)
	var wantCodes []int
	for _, a := range acts {
		x, code := impl.ActDo(want, a)
		want, wantCodes = x, append(wantCodes, code)
	}
	got, codes, code := impl.ActsRun(rom, tape, acts)
	checkMachine(t, fmt.Sprint("ActsRun of ", acts), got, code, want, impl.OK)
	if !slices.Equal(codes, wantCodes) {
		t.Fatal("ActsRun of", acts, "has the codes", codes, "not", wantCodes)
	}
	return codes
}

func checkNoActs(t *testing.T, acts []impl.Act, want int) {
	t.Helper()
	m, codes, code := impl.ActsRun(longText(64), nil, acts)
	checkMachine(t, fmt.Sprint("ActsRun of ", len(acts), " acts ", short(acts)), m, code, impl.Machine{}, want)
	if len(codes) != 0 {
		t.Error("ActsRun of", short(acts), "has the codes", codes)
	}
}

func (l *lot) someAct() impl.Act {
	list := rightActs()
	if l.below(3) == 0 {
		return list[l.below(len(list))]
	}
	return []impl.Act{{Kind: 3}, {Kind: 4}, {Kind: 5}, {Kind: 6, A: 1}, {Kind: 7}, {Kind: 8}}[l.below(6)]
}

func (l *lot) someActs(n int) []impl.Act {
	var list []impl.Act
	for range n {
		list = append(list, l.someAct())
	}
	return list
}

func TestActsRunOfSome(t *testing.T) {
	l := lot(1442)
	for _, name := range namesOfPrograms() {
		rom := programs()[name]
		for n := range 12 {
			checkActs(t, rom, l.someTape(l.below(4)), l.someActs(n))
		}
		checkActs(t, rom, tapeOf(6), l.someActs(impl.MaxActs-1))
		checkActs(t, rom, nil, l.someActs(impl.MaxActs))
	}
	for _, a := range rightActs() {
		checkActs(t, longText(64), tapeOf(1), []impl.Act{a})
	}
}

func TestActsRunCodes(t *testing.T) {
	acts := []impl.Act{{Kind: 8}, {Kind: 3}, {Kind: 4}, {Kind: 5}, {Kind: 7}, {Kind: 8}, {Kind: 6}, {Kind: 2, A: 4}, {Kind: 1}}
	if codes := checkActs(t, longText(64), nil, acts); !slices.Equal(codes, []int{impl.ErrNone, impl.ErrEnd, impl.ErrStopped, 0, 0, 0, 0, 0, 0}) {
		t.Error("without a tape the codes are", codes)
	}
	if codes := checkActs(t, longText(64), tapeOf(1), acts); !slices.Equal(codes, []int{impl.ErrNone, 0, 0, 0, 0, 0, 0, 0, 0}) {
		t.Error("with a tape the codes are", codes)
	}
	played := []impl.Act{{Kind: 3}, {Kind: 6, A: 6}, {Kind: 4}, {Kind: 3}, {Kind: 5}, {Kind: 3}, {Kind: 3}}
	if codes := checkActs(t, longText(64), []impl.Block{{Flag: 255}}, played); !slices.Equal(codes, []int{0, 0, impl.ErrStopped, impl.ErrEnd, 0, 0, 0}) {
		t.Error("of a tape that plays to its end the codes are", codes)
	}
}

func TestActsRunOfManyAndWrongOnes(t *testing.T) {
	right := impl.Act{Kind: impl.AcStop}
	checkActs(t, longText(64), nil, slices.Repeat([]impl.Act{right}, 40))
	for _, n := range []int{41, 42, 80, 256, impl.MaxList - 1, impl.MaxList} {
		checkNoActs(t, slices.Repeat([]impl.Act{right}, n), impl.ErrMany)
		checkNoActs(t, make([]impl.Act, n), impl.ErrMany)
	}
	for _, n := range []int{impl.MaxList + 1, 2 * impl.MaxList} {
		checkNoActs(t, slices.Repeat([]impl.Act{right}, n), impl.ErrLong)
		checkNoActs(t, make([]impl.Act, n), impl.ErrLong)
	}
	wrong := wrongActs()
	for n := 1; n <= 40; n++ {
		for at := range n {
			list := slices.Repeat([]impl.Act{right}, n)
			list[at] = wrong[(41*n+at)%len(wrong)]
			checkNoActs(t, list, impl.ErrBad)
		}
	}
	for _, a := range wrong {
		checkNoActs(t, []impl.Act{a}, impl.ErrBad)
		checkNoActs(t, []impl.Act{{Kind: impl.AcFrames, A: 6}, right, a, right}, impl.ErrBad)
	}
}
