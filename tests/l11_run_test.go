package tests

import (
	"math"
	"slices"
	"testing"

	"loop.example/g00644/impl"
)

const mostRun = 100000

// runWritten asks when each edge comes, from the beginning of the tape on, and counts those that lie behind where the deck is and not behind where it comes to.
func runWritten(d impl.Deck, n int) (impl.Deck, int) {
	want := copyDeck(d)
	if !d.Plays {
		return want, 0
	}
	end := 0
	times := make([]int, len(d.Pulses))
	for i, length := range d.Pulses {
		end += length
		times[i] = end
	}
	here := times[d.Index] - d.Left
	there := min(here+n, end)
	edges := 0
	for _, time := range times {
		if time > here && time <= there {
			edges++
		}
	}
	want.Index += edges
	want.Level = d.Level != (edges%2 == 1)
	want.Plays = there < end
	want.Left = 0
	if want.Plays {
		want.Left = times[want.Index] - there
	}
	return want, edges
}

func checkRun(t *testing.T, d impl.Deck, n int) {
	t.Helper()
	want, edges := runWritten(d, n)
	got, turned, code := impl.RunDeck(d, n)
	checkDeck(t, "RunDeck", d, got, code, want, impl.OK)
	if turned != edges {
		t.Error("RunDeck of", short(d), "by", n, "T turns", turned, "times, not", edges)
	}
}

// someTimes are within what RunDeck takes.
func someTimes() []int {
	return []int{0, 1, 2, 3, 4, 5, 6, 7, 8, 11, 42, 47, 48, 49, 96, 500, 999, 1000, 1001, 1002, 1889, 1890, 1891, 2000, 2001, 2002, 2003, 50000, mostRun - 1, mostRun}
}

func TestRunDeckAsWritten(t *testing.T) {
	for _, d := range rightDecks() {
		for _, n := range someTimes() {
			checkRun(t, d, n)
		}
	}
}

// All decks of few short pulses, all places in them, and all times up to beyond the end.
func TestRunDeckOfAllSmallTapes(t *testing.T) {
	lengths := []int{1, 2, 5}
	var tapes [][]int
	for _, a := range lengths {
		tapes = append(tapes, []int{a})
		for _, b := range lengths {
			tapes = append(tapes, []int{a, b})
			for _, c := range lengths {
				tapes = append(tapes, []int{a, b, c})
			}
		}
	}
	for _, pulses := range tapes {
		for index, length := range pulses {
			for left := 1; left <= length; left++ {
				withBoth(deckOf(pulses, index, left, false, false), func(d impl.Deck) {
					for n := range 20 {
						checkRun(t, d, n)
					}
				})
			}
		}
	}
}

func TestRunDeckOfSomeTapes(t *testing.T) {
	l := lot(122)
	for range 300 {
		pulses := make([]int, 1+l.below(30))
		for i := range pulses {
			pulses[i] = 1 + l.below([]int{2, 10, 100, 1000}[l.below(4)])
		}
		index := l.below(len(pulses))
		d := deckOf(pulses, index, 1+l.below(pulses[index]), l.below(2) == 1, l.below(4) > 0)
		for range 20 {
			checkRun(t, d, l.below([]int{10, 100, 1000, 40000}[l.below(4)]))
		}
	}
}

type runRow struct {
	name        string
	pulses      []int
	index, left int
	level       bool
	n           int
	edges       int
	wantIndex   int
	wantLeft    int
	wantLevel   bool
	wantPlays   bool
}

func middleRows() []runRow {
	three := []int{10, 20, 30}
	return []runRow{
		{"no T", three, 0, 10, false, 0, 0, 0, 10, false, true},
		{"no T with one left", three, 0, 1, true, 0, 0, 0, 1, true, true},
		{"one T", three, 0, 10, false, 1, 0, 0, 9, false, true},
		{"one T less than is left", three, 0, 7, false, 6, 0, 0, 1, false, true},
		{"just what is left", three, 0, 7, false, 7, 1, 1, 20, true, true},
		{"one T more than is left", three, 0, 7, false, 8, 1, 1, 19, true, true},
		{"up to the end of the second", three, 0, 7, false, 27, 2, 2, 30, false, true},
		{"one T ahead of the end of the second", three, 0, 7, false, 26, 1, 1, 1, true, true},
		{"one T behind the end of the second", three, 0, 7, true, 28, 2, 2, 29, true, true},
		{"in the second", three, 1, 20, true, 5, 0, 1, 15, true, true},
		{"pulses of one", []int{1, 1, 1, 1}, 0, 1, false, 3, 3, 3, 1, true, true},
		{"one pulse of one", []int{1, 1, 1, 1}, 1, 1, true, 1, 1, 2, 1, false, true},
		{"pulses of a thousand", []int{1000, 1000, 1000}, 0, 1000, false, 1999, 1, 1, 1, true, true},
		{"two pulses of a thousand", []int{1000, 1000, 1000}, 0, 1000, false, 2000, 2, 2, 1000, false, true},
	}
}

func lastEdgeRows() []runRow {
	three := []int{10, 20, 30}
	return []runRow{
		{"one T ahead of the last edge", three, 0, 10, false, 59, 2, 2, 1, false, true},
		{"just at the last edge", three, 0, 10, false, 60, 3, 3, 0, true, false},
		{"one T behind the last edge", three, 0, 10, false, 61, 3, 3, 0, true, false},
		{"far beyond the last edge", three, 0, 10, false, 100000, 3, 3, 0, true, false},
		{"in the last one, one T ahead", three, 2, 4, true, 3, 0, 2, 1, true, true},
		{"in the last one, just so", three, 2, 4, true, 4, 1, 3, 0, false, false},
		{"in the last one, one T behind", three, 2, 4, true, 5, 1, 3, 0, false, false},
		{"the last T", three, 2, 1, false, 1, 1, 3, 0, true, false},
		{"the last T, and no T", three, 2, 1, false, 0, 0, 2, 1, false, true},
		{"a lone pulse", []int{1}, 0, 1, false, 1, 1, 1, 0, true, false},
		{"a lone pulse, level high", []int{1}, 0, 1, true, 2, 1, 1, 0, false, false},
		{"a lone pulse of a thousand, one T ahead", []int{1000}, 0, 1000, false, 999, 0, 0, 1, false, true},
		{"a lone pulse of a thousand", []int{1000}, 0, 1000, false, 1000, 1, 1, 0, true, false},
		{"two pulses end as they began", []int{3, 4}, 0, 3, false, 100, 2, 2, 0, false, false},
		{"two pulses end as they began, level high", []int{3, 4}, 0, 3, true, 7, 2, 2, 0, true, false},
	}
}

func TestRunDeckByRows(t *testing.T) {
	for _, r := range slices.Concat(middleRows(), lastEdgeRows()) {
		d := deckOf(r.pulses, r.index, r.left, r.level, true)
		got, edges, code := impl.RunDeck(d, r.n)
		want := deckOf(r.pulses, r.wantIndex, r.wantLeft, r.wantLevel, r.wantPlays)
		checkDeck(t, r.name+": RunDeck", d, got, code, want, impl.OK)
		if edges != r.edges || !impl.DeckOK(got) {
			t.Error(r.name, "has", edges, "edges, not", r.edges)
		}
	}
}

func TestRunDeckOfTheGreatestDecks(t *testing.T) {
	slow := deckOf(slices.Repeat([]int{1000}, mostPulses), 0, 1000, false, true)
	got, edges, code := impl.RunDeck(slow, mostRun)
	checkDeck(t, "RunDeck", slow, got, code, deckOf(slow.Pulses, 100, 1000, false, true), impl.OK)
	if edges != 100 {
		t.Error("of pulses of 1000 there are", edges, "edges")
	}
	fast := deckOf(slices.Repeat([]int{1}, mostPulses), 0, 1, false, true)
	for n, want := range map[int]impl.Deck{
		4998:    deckOf(fast.Pulses, 4998, 1, false, true),
		4999:    deckOf(fast.Pulses, 4999, 1, true, true),
		5000:    deckOf(fast.Pulses, 5000, 0, false, false),
		5001:    deckOf(fast.Pulses, 5000, 0, false, false),
		mostRun: deckOf(fast.Pulses, 5000, 0, false, false),
	} {
		got, edges, code := impl.RunDeck(fast, n)
		checkDeck(t, "RunDeck", fast, got, code, want, impl.OK)
		if edges != want.Index {
			t.Error("of pulses of 1 there are", edges, "edges in", n, "T")
		}
	}
}

// One that does not play stays where it is, however long it is run.
func TestRunDeckOfOneThatDoesNotPlay(t *testing.T) {
	for _, d := range rightDecks() {
		if d.Plays {
			continue
		}
		for _, n := range someTimes() {
			got, edges, code := impl.RunDeck(d, n)
			checkDeck(t, "RunDeck", d, got, code, d, impl.OK)
			if edges != 0 {
				t.Error("one that does not play has", edges, "edges")
			}
		}
	}
}

// A time that is out of its bounds is told also of one that does not play.
func TestRunDeckByTime(t *testing.T) {
	for _, d := range rightDecks() {
		for _, n := range []int{math.MinInt, math.MinInt + 1, -1 << 32, -mostRun, -2, -1, mostRun + 1, mostRun + 2, 1 << 31, 1 << 32, 1<<32 + 5, math.MaxInt - 1, math.MaxInt} {
			got, edges, code := impl.RunDeck(d, n)
			checkDeck(t, "RunDeck", d, got, code, impl.Deck{}, impl.ErrRange)
			if edges != 0 {
				t.Error("with ErrRange there are", edges, "edges")
			}
		}
		for _, n := range []int{0, 1, mostRun - 1, mostRun} {
			if _, _, code := impl.RunDeck(d, n); code != impl.OK {
				t.Error("RunDeck of", short(d), "by", n, "is", code)
			}
		}
	}
}

// Behind the end it is stopped: it neither runs nor plays, it is stopped already, and it can be rewound.
func TestDeckBehindItsEnd(t *testing.T) {
	first, _ := impl.NewDeck([]impl.Block{{Flag: 255}})
	d, _ := impl.PlayDeck(first)
	d, edges, code := impl.RunDeck(d, 1890)
	end := deckOf(first.Pulses, 43, 0, true, false)
	checkDeck(t, "RunDeck", first, d, code, end, impl.OK)
	if edges != 43 {
		t.Error("there are", edges, "edges")
	}
	x, edges, code := impl.RunDeck(d, 100)
	checkDeck(t, "RunDeck", d, x, code, end, impl.OK)
	if edges != 0 {
		t.Error("behind the end there are", edges, "edges")
	}
	x, code = impl.PlayDeck(d)
	checkDeck(t, "PlayDeck", d, x, code, end, impl.ErrEnd)
	x, code = impl.StopDeck(d)
	checkDeck(t, "StopDeck", d, x, code, end, impl.ErrStopped)
	x, code = impl.RewindDeck(d)
	checkDeck(t, "RewindDeck", d, x, code, first, impl.OK)
}
