package tests

import (
	"slices"
	"testing"

	"loop.example/g00644/impl"
)

// ran runs a deck by any time, in as few calls as there may be.
func ran(t *testing.T, d impl.Deck, n int) (impl.Deck, int) {
	t.Helper()
	edges := 0
	for {
		part := min(n, mostRun)
		x, turned, code := impl.RunDeck(d, part)
		if code != impl.OK || !impl.DeckOK(x) {
			t.Fatal("RunDeck of", short(d), "by", part, "is", short(x), code)
		}
		d, edges, n = x, edges+turned, n-part
		if n == 0 {
			return d, edges
		}
	}
}

func playing(t *testing.T, d impl.Deck) impl.Deck {
	t.Helper()
	x, code := impl.PlayDeck(d)
	if code != impl.OK {
		t.Fatal("PlayDeck of", short(d), "is", code)
	}
	return x
}

func timeOfPulses(pulses []int) int {
	whole := 0
	for _, length := range pulses {
		whole += length
	}
	return whole
}

// checkParts runs a deck by n at once, and in two parts, the first of which is each of firsts.
func checkParts(t *testing.T, d impl.Deck, n int, firsts func(with func(first int))) {
	t.Helper()
	whole, edges := ran(t, d, n)
	firsts(func(first int) {
		one, oneEdges := ran(t, d, first)
		two, twoEdges := ran(t, one, n-first)
		if !alikeDecks(two, whole) || !impl.SameDeck(two, whole) || oneEdges+twoEdges != edges {
			t.Error("of", short(d), "run by", first, "and", n-first, "there are", oneEdges, "and", twoEdges, "edges, at", two.Index, two.Left, two.Level, two.Plays, "at once", edges, "at", whole.Index, whole.Left, whole.Level, whole.Plays)
		}
	})
}

func upToAll(n int) func(with func(first int)) {
	return func(with func(first int)) {
		for first := range n + 1 {
			with(first)
		}
	}
}

// At every place of a tape, run up to one T ahead of its end, to its end, and beyond it.
func TestPromise12AtEveryPlace(t *testing.T) {
	for _, list := range [][]impl.Block{{{Flag: 255}}, {{Flag: 0}}, {blockOf(130, 1), blockOf(3, 0)}} {
		d, _ := impl.NewDeck(list)
		d = playing(t, d)
		end := timeOfPulses(d.Pulses)
		for _, n := range []int{end - 200, end - 1, end, end + 1, end + 300} {
			checkParts(t, d, n, upToAll(n))
		}
	}
}

func TestPromise12OfSmallTapes(t *testing.T) {
	for _, pulses := range [][]int{{1}, {2}, {1, 1}, {3, 1}, {1, 4, 2}, {2, 2, 2, 2}, {5, 1, 1, 5}} {
		end := timeOfPulses(pulses)
		for index, length := range pulses {
			for left := 1; left <= length; left++ {
				withBoth(deckOf(pulses, index, left, false, false), func(d impl.Deck) {
					for n := range end + 4 {
						checkParts(t, d, n, upToAll(n))
					}
				})
			}
		}
	}
}

func TestPromise12OfGreatTapes(t *testing.T) {
	l := lot(1200)
	tape, _ := impl.NewDeck(slices.Repeat([]impl.Block{blockOf(7, impl.MaxBlock)}, impl.MaxBlocks))
	for _, pulses := range [][]int{tape.Pulses, mixedPulses(mostPulses), slices.Repeat([]int{1}, mostPulses), slices.Repeat([]int{1000}, mostPulses)} {
		d := deckOf(pulses, 0, pulses[0], false, true)
		end := timeOfPulses(pulses)
		for _, n := range []int{end / 2, end - 1, end, end + 1} {
			checkParts(t, d, n, func(with func(first int)) {
				for range 10 {
					with(l.below(n + 1))
				}
			})
		}
	}
}

// Stopped and played again between the parts it goes on where it was.
func TestPromise12StoppedBetweenTheParts(t *testing.T) {
	d, _ := impl.NewDeck([]impl.Block{{Flag: 255}})
	d = playing(t, d)
	end := timeOfPulses(d.Pulses)
	whole, edges := ran(t, d, end)
	for first := range end {
		one, oneEdges := ran(t, d, first)
		stopped, code := impl.StopDeck(one)
		if code != impl.OK {
			t.Fatal("StopDeck after", first, "T is", code)
		}
		stopped, none := ran(t, stopped, 77)
		two, twoEdges := ran(t, playing(t, stopped), end-first)
		if !alikeDecks(two, whole) || none != 0 || oneEdges+twoEdges != edges {
			t.Error("stopped after", first, "T there are", oneEdges, none, "and", twoEdges, "edges, at", two.Index, two.Left)
		}
	}
}

// checkEdges goes T by T: where the level turned about there is an edge, and each is behind a pulse.
func checkEdges(t *testing.T, d impl.Deck) {
	t.Helper()
	var lengths []int
	length := 0
	for d.Plays {
		x, edges := ran(t, d, 1)
		length++
		if (x.Level != d.Level) != (edges == 1) || edges > 1 {
			t.Fatal("in one T there are", edges, "edges, and the level goes from", d.Level, "to", x.Level)
		}
		if edges == 1 {
			lengths, length = append(lengths, length), 0
		}
		d = x
	}
	if !slices.Equal(lengths, d.Pulses) || length != 0 {
		t.Error("of the pulses", short(d.Pulses), "the edges tell", short(lengths))
	}
}

func TestPromise12EdgesTellThePulses(t *testing.T) {
	for n := range 3 {
		d, _ := impl.NewDeck(tapeOf(n + 1))
		checkEdges(t, playing(t, d))
	}
	for _, pulses := range [][]int{{1}, {1000}, {1, 1, 1}, {3, 1, 1000, 1, 2}} {
		checkEdges(t, deckOf(pulses, 0, pulses[0], false, true))
		checkEdges(t, deckOf(pulses, 0, pulses[0], true, true))
	}
}

func TestPromise12AsManyEdgesAsPulses(t *testing.T) {
	l := lot(1201)
	for n := 1; n <= impl.MaxBlocks; n++ {
		for range 30 {
			d, _ := impl.NewDeck(l.someTape(n))
			end := timeOfPulses(d.Pulses)
			whole, edges := ran(t, playing(t, d), end)
			want := deckOf(d.Pulses, len(d.Pulses), 0, len(d.Pulses)%2 == 1, false)
			if edges != len(d.Pulses) || !alikeDecks(whole, want) {
				t.Error("of", len(d.Pulses), "pulses there are", edges, "edges, at", whole.Index, whole.Left, whole.Level, whole.Plays)
			}
			if _, edges := ran(t, playing(t, d), end-1); edges != len(d.Pulses)-1 {
				t.Error("a T ahead of the end there are", edges, "edges of", len(d.Pulses))
			}
		}
	}
	none, _ := impl.NewDeck(nil)
	if x, edges := ran(t, none, 1000); edges != 0 || !alikeDecks(x, none) {
		t.Error("a tape without a pulse has", edges, "edges")
	}
}
