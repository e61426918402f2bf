package tests

import (
	"math"
	"testing"

	"loop.example/g00644/impl"
)

func TestFrameLengths(t *testing.T) {
	for _, r := range []struct {
		name      string
		got, want int
	}{
		{"FrameT", impl.FrameT, 640}, {"Lines", impl.Lines, 20}, {"LineT", impl.LineT, 32}, {"TopRow", impl.TopRow, 4},
		{"Rows", impl.Rows, 8}, {"Across", impl.Across, 16}, {"Window", impl.Window, 8},
	} {
		if r.got != r.want {
			t.Error(r.name, "is", r.got, "not", r.want)
		}
	}
}

// momentAnswer is all that the calls tell of one T.
type momentAnswer struct {
	line, into int
	screen     bool
	waits      int
	fetch      int
	window     bool
}

// drawnFrame draws a frame line by line, so that the rule stands here without a division: ahead of the screen, the screen, behind it.
func drawnFrame() []momentAnswer {
	var list []momentAnswer
	for line := range 20 {
		for into := range 32 {
			list = append(list, momentAnswer{line: line, into: into, fetch: -1, window: line == 0 && into < 8})
		}
	}
	at := 4*32 - 1
	for row := range 8 {
		for column, waits := range [4][4]int{{6, 5, 4, 3}, {2, 1, 0, 0}, {6, 5, 4, 3}, {2, 1, 0, 0}} {
			for i, w := range waits {
				at++
				list[at].screen, list[at].waits = true, w
				list[at].fetch = [4]int{4*row + column, 32 + 4*row + column, -1, -1}[i]
			}
		}
		at += 16
	}
	return list
}

// asked tells what the calls say of a T; they must agree on the code.
func asked(t *testing.T, at int) (momentAnswer, int) {
	t.Helper()
	var m momentAnswer
	var codes [5]int
	m.line, m.into, codes[0] = impl.LineOf(at)
	m.screen, codes[1] = impl.IsScreen(at)
	m.waits, codes[2] = impl.WaitsAt(at)
	m.fetch, codes[3] = impl.FetchAt(at)
	m.window, codes[4] = impl.InWindow(at)
	for _, code := range codes {
		if code != codes[0] {
			t.Error("LineOf, IsScreen, WaitsAt, FetchAt, InWindow of", at, "have the codes", codes)
		}
	}
	return m, codes[0]
}

func TestEveryTOfAFrame(t *testing.T) {
	drawn := drawnFrame()
	if len(drawn) != 640 {
		t.Fatal("a frame of", len(drawn))
	}
	for at, want := range drawn {
		if got, code := asked(t, at); got != want || code != impl.OK {
			t.Errorf("of T %d: %+v %d, not %+v", at, got, code, want)
		}
	}
}

func TestTOutsideAFrame(t *testing.T) {
	list := []int{-1, -2, -8, -31, -32, -33, -512, -640, 640, 641, 647, 671, 672, 768, 1279, 1280}
	for _, n := range anyNumbers() {
		if n < 0 || n >= 640 {
			list = append(list, n)
		}
	}
	// Cut off to 32 or to 8 bits, or without a sign, these would be the first T of the screen.
	list = append(list, 128+1<<32, 128-1<<32, math.MinInt+128, 128+256*3, 128-256)
	for _, at := range list {
		if got, code := asked(t, at); got != (momentAnswer{}) || code != impl.ErrRange {
			t.Errorf("of T %d: %+v %d", at, got, code)
		}
	}
}

func TestEndsOfTheScreen(t *testing.T) {
	for at, want := range map[int]momentAnswer{
		0:   {line: 0, into: 0, fetch: -1, window: true},
		7:   {line: 0, into: 7, fetch: -1, window: true},
		8:   {line: 0, into: 8, fetch: -1},
		96:  {line: 3, into: 0, fetch: -1},
		111: {line: 3, into: 15, fetch: -1},
		127: {line: 3, into: 31, fetch: -1},
		128: {line: 4, into: 0, screen: true, waits: 6, fetch: 0},
		129: {line: 4, into: 1, screen: true, waits: 5, fetch: 32},
		143: {line: 4, into: 15, screen: true, waits: 0, fetch: -1},
		144: {line: 4, into: 16, fetch: -1},
		159: {line: 4, into: 31, fetch: -1},
		160: {line: 5, into: 0, screen: true, waits: 6, fetch: 4},
		351: {line: 10, into: 31, fetch: -1},
		352: {line: 11, into: 0, screen: true, waits: 6, fetch: 28},
		364: {line: 11, into: 12, screen: true, waits: 2, fetch: 31},
		365: {line: 11, into: 13, screen: true, waits: 1, fetch: 63},
		367: {line: 11, into: 15, screen: true, waits: 0, fetch: -1},
		368: {line: 11, into: 16, fetch: -1},
		383: {line: 11, into: 31, fetch: -1},
		384: {line: 12, into: 0, fetch: -1},
		399: {line: 12, into: 15, fetch: -1},
		639: {line: 19, into: 31, fetch: -1},
	} {
		if got, code := asked(t, at); got != want || code != impl.OK {
			t.Errorf("of T %d: %+v %d, not %+v", at, got, code, want)
		}
	}
}

func TestScreenIsEightLinesOfSixteen(t *testing.T) {
	var shown [20]int
	for at := range 640 {
		line, _, _ := impl.LineOf(at)
		if yes, _ := impl.IsScreen(at); yes {
			shown[line]++
		}
	}
	if want := [20]int{4: 16, 5: 16, 6: 16, 7: 16, 8: 16, 9: 16, 10: 16, 11: 16}; shown != want {
		t.Error("T of the screen by line:", shown)
	}
}

func TestWaitsInEachEightT(t *testing.T) {
	for row := range 8 {
		for half := range 2 {
			first := (4+row)*32 + 8*half
			var got [8]int
			for i := range got {
				got[i], _ = impl.WaitsAt(first + i)
			}
			if got != [8]int{6, 5, 4, 3, 2, 1, 0, 0} {
				t.Error("waits from", first, "on:", got)
			}
		}
	}
}

func TestFourTOfEachFetch(t *testing.T) {
	for row := range 8 {
		for column := range 4 {
			first := (4+row)*32 + 4*column
			k, code := impl.CellOf(row, column)
			if k != 4*row+column || code != impl.OK {
				t.Error("CellOf", row, column, "is", k, code)
			}
			var got [4]int
			for i := range got {
				got[i], _ = impl.FetchAt(first + i)
			}
			if got != [4]int{k, k + 32, -1, -1} {
				t.Error("fetches from", first, "on:", got)
			}
		}
	}
}

func TestWaitTableIsWaitsAt(t *testing.T) {
	table := impl.WaitTable()
	if len(table) != 640 {
		t.Fatal("WaitTable has", len(table))
	}
	for at, w := range table {
		if want, code := impl.WaitsAt(at); w != want || code != impl.OK {
			t.Error("WaitTable at", at, "is", w, "not", want)
		}
	}
}

func TestWaitTableIsNewMemory(t *testing.T) {
	first, second := impl.WaitTable(), impl.WaitTable()
	for at := range first {
		first[at] = 99
	}
	first = append(first, 99)
	third := impl.WaitTable()
	for at, m := range drawnFrame() {
		if second[at] != m.waits || third[at] != m.waits {
			t.Fatal("WaitTable at", at, "after another one was written to:", second[at], third[at])
		}
	}
	if w, code := impl.WaitsAt(128); w != 6 || code != impl.OK {
		t.Error("WaitsAt after a table was written to:", w, code)
	}
}

func TestCellsAtTheBounds(t *testing.T) {
	for cell, want := range map[[2]int]int{{0, 0}: 0, {0, 3}: 3, {1, 0}: 4, {1, 1}: 5, {7, 0}: 28, {7, 3}: 31} {
		if k, code := impl.CellOf(cell[0], cell[1]); k != want || code != impl.OK {
			t.Error("CellOf", cell, "is", k, code)
		}
	}
	for row := -2; row <= 10; row++ {
		for column := -2; column <= 10; column++ {
			want, wantCode := 0, impl.ErrRange
			if row >= 0 && row <= 7 && column >= 0 && column <= 3 {
				want, wantCode = 4*row+column, impl.OK
			}
			if k, code := impl.CellOf(row, column); k != want || code != wantCode {
				t.Error("CellOf", row, column, "is", k, code)
			}
		}
	}
}

func TestCellsFarOutside(t *testing.T) {
	for _, v := range []int{math.MinInt, math.MinInt + 1, -1 << 32, -256, -8, -4, -1, 8, 9, 256, 1 << 32, math.MaxInt - 1, math.MaxInt} {
		for _, cell := range [][2]int{{v, 0}, {v, 3}, {0, v}, {7, v}, {v, v}, {v, -v}, {v, 4}, {8, v}} {
			if k, code := impl.CellOf(cell[0], cell[1]); k != 0 || code != impl.ErrRange {
				t.Error("CellOf", cell, "is", k, code)
			}
		}
	}
}
