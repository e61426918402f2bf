package tests

import (
	"math"
	"slices"
	"testing"

	"loop.example/g00644/impl"
)

const mostPulses = 5000

type namedDeck struct {
	name string
	d    impl.Deck
}

// mixedPulses are n, from 1 to 1000, no two neighbours alike.
func mixedPulses(n int) []int {
	list := make([]int, n)
	for i := range list {
		list[i] = 1 + (37*i+i/1000)%1000
	}
	return list
}

// deckOf is of pulses of its own; what is left is Left.
func deckOf(pulses []int, index, left int, level, plays bool) impl.Deck {
	return impl.Deck{Pulses: slices.Clone(pulses), Index: index, Left: left, Level: level, Plays: plays}
}

func copyDeck(d impl.Deck) impl.Deck {
	d.Pulses = slices.Clone(d.Pulses)
	return d
}

// alikeDecks goes field by field, with no call of the program.
func alikeDecks(a, b impl.Deck) bool {
	return slices.Equal(a.Pulses, b.Pulses) && a.Index == b.Index && a.Left == b.Left && a.Level == b.Level && a.Plays == b.Plays
}

func isZeroDeck(d impl.Deck) bool { return alikeDecks(d, impl.Deck{}) }

// withBoth calls with each of the levels and, where it may play, both playing and not.
func withBoth(d impl.Deck, with func(d impl.Deck)) {
	for _, level := range []bool{false, true} {
		for _, plays := range []bool{false, true} {
			if plays && d.Index == len(d.Pulses) {
				continue
			}
			x := copyDeck(d)
			x.Level, x.Plays = level, plays
			with(x)
		}
	}
}

// rightDecks are at the beginning, in the middle and at the end, of few pulses and of many, in both levels, playing and not.
func rightDecks() []impl.Deck {
	var list []impl.Deck
	add := func(d impl.Deck) { list = append(list, d) }
	for _, pulses := range [][]int{nil, {1}, {2}, {1000}, {5, 3}, {1, 1, 1}, {1000, 1, 1000, 1}, tapePulsesWritten(impl.Block{Flag: 255}), mixedPulses(impl.MaxList), mixedPulses(impl.MaxList + 1), mixedPulses(mostPulses)} {
		n := len(pulses)
		withBoth(deckOf(pulses, n, 0, false, false), add)
		for _, index := range []int{0, n / 2, n - 1} {
			if index < 0 || index >= n {
				continue
			}
			for _, left := range []int{1, (pulses[index] + 1) / 2, pulses[index]} {
				withBoth(deckOf(pulses, index, left, false, false), add)
			}
		}
	}
	return list
}

// wrongDecks are not right by what their name says.
func wrongDecks() []namedDeck {
	five := []int{5}
	list := []namedDeck{
		{"without a pulse it plays", impl.Deck{Plays: true}},
		{"without a pulse something is left", impl.Deck{Left: 1}},
		{"without a pulse less than nothing is left", impl.Deck{Left: -1}},
		{"without a pulse it is behind the end", impl.Deck{Index: 1}},
		{"without a pulse it is ahead of the beginning", impl.Deck{Index: -1}},
		{"it plays at the end", deckOf(five, 1, 0, true, true)},
		{"at the end something is left", deckOf(five, 1, 1, true, false)},
		{"at the end a whole pulse is left", deckOf(five, 1, 5, true, false)},
		{"at the end less than nothing is left", deckOf(five, 1, -1, true, false)},
		{"one pulse too many", deckOf(mixedPulses(mostPulses+1), 0, 1, false, false)},
		{"one pulse too many, at the end", deckOf(mixedPulses(mostPulses+1), mostPulses+1, 0, false, false)},
		{"far too many pulses", deckOf(mixedPulses(4*mostPulses), 0, 1, false, true)},
	}
	for _, plays := range []bool{false, true} {
		for _, index := range []int{math.MinInt, -5, -1, 2, 3, 5000, 1 << 32, math.MaxInt} {
			list = append(list,
				namedDeck{"no such Index", deckOf(five, index, 1, false, plays)},
				namedDeck{"no such Index, and nothing left", deckOf(five, index, 0, false, plays)})
		}
		for _, left := range []int{math.MinInt, -1 << 32, -5, -1, 0, 6, 7, 1000, 1001, 1<<32 + 3, math.MaxInt} {
			list = append(list, namedDeck{"no such Left", deckOf(five, 0, left, false, plays)})
		}
		for _, wrong := range noPulses() {
			list = append(list,
				namedDeck{"a wrong pulse ahead", deckOf([]int{wrong, 5, 5}, 1, 5, false, plays)},
				namedDeck{"a wrong pulse goes on", deckOf([]int{5, wrong, 5}, 1, 1, false, plays)},
				namedDeck{"a wrong pulse is whole", deckOf([]int{5, wrong, 5}, 1, wrong, false, plays)},
				namedDeck{"a wrong pulse behind", deckOf([]int{5, 5, wrong}, 1, 5, false, plays)})
		}
	}
	return list
}

func checkNewDeck(t *testing.T, list []impl.Block) {
	t.Helper()
	pulses := tapePulsesWritten(list...)
	d, code := impl.NewDeck(list)
	if code != impl.OK || !impl.DeckOK(d) {
		t.Error("NewDeck of", len(list), "blocks is", short(d), code)
		return
	}
	left := 0
	if len(list) > 0 {
		left = 48
	}
	if !slices.Equal(d.Pulses, pulses) {
		t.Error("NewDeck of", len(list), "blocks has the pulses", short(d.Pulses))
	}
	if d.Index != 0 || d.Left != left || d.Level || d.Plays {
		t.Error("NewDeck of", len(list), "blocks is at", d.Index, d.Left, "level", d.Level, "plays", d.Plays)
	}
}

func checkNoDeck(t *testing.T, list []impl.Block, want int) {
	t.Helper()
	if d, code := impl.NewDeck(list); code != want || !isZeroDeck(d) {
		t.Error("NewDeck of", len(list), "blocks is", short(d), code, "not", want)
	}
}

func TestNewDeckOfEachNumberOfBlocks(t *testing.T) {
	checkNewDeck(t, nil)
	checkNewDeck(t, []impl.Block{})
	l := lot(120)
	for n := range impl.MaxBlocks + 1 {
		checkNewDeck(t, tapeOf(n))
		checkNewDeck(t, make([]impl.Block, n))
		for range 20 {
			checkNewDeck(t, l.someTape(n))
		}
	}
	for flag := range 256 {
		checkNewDeck(t, []impl.Block{blockOf(flag, 2)})
	}
}

// The greatest tapes have more pulses than a list that is handed in may have, and fewer than a deck.
func TestNewDeckOfTheGreatestTapes(t *testing.T) {
	for _, flag := range []int{0, 255} {
		checkNewDeck(t, slices.Repeat([]impl.Block{blockOf(flag, impl.MaxBlock)}, impl.MaxBlocks))
	}
}

func TestNewDeckIsOfTapePulses(t *testing.T) {
	l := lot(121)
	for range 100 {
		list := l.someTape(l.below(impl.MaxBlocks + 3))
		pulses, want := impl.TapePulses(list)
		if d, code := impl.NewDeck(list); code != want || !slices.Equal(d.Pulses, pulses) {
			t.Error("NewDeck of", len(list), "blocks is", short(d), code, "not", want)
		}
	}
}

func TestNewDeckWithOneWrongBlock(t *testing.T) {
	for n := 1; n <= impl.MaxBlocks+1; n++ {
		for i := range n {
			for _, wrong := range []impl.Block{{Flag: -1}, {Flag: 256}, {Flag: math.MinInt}, {Flag: math.MaxInt}, blockOf(0, impl.MaxBlock+1), blockOf(0, impl.MaxText+1)} {
				list := tapeOf(n)
				list[i] = wrong
				checkNoDeck(t, list, impl.ErrBad)
			}
		}
	}
	for _, wrong := range wrongBlocks() {
		checkNoDeck(t, []impl.Block{wrong}, impl.ErrBad)
	}
}

// More blocks than MaxBlocks are ErrBad up to MaxList, ErrLong beyond it, whether the blocks are right or not.
func TestNewDeckOfTooManyBlocks(t *testing.T) {
	for n, want := range map[int]int{
		impl.MaxBlocks + 1: impl.ErrBad, impl.MaxBlocks + 2: impl.ErrBad, 256: impl.ErrBad,
		impl.MaxList - 1: impl.ErrBad, impl.MaxList: impl.ErrBad,
		impl.MaxList + 1: impl.ErrLong, mostPulses: impl.ErrLong, 2 * impl.MaxList: impl.ErrLong, impl.MaxText + 1: impl.ErrLong,
	} {
		for _, b := range []impl.Block{{}, blockOf(9, 3), {Flag: 256}, blockOf(0, impl.MaxBlock+1)} {
			checkNoDeck(t, slices.Repeat([]impl.Block{b}, n), want)
		}
	}
}

func wantDeckOK(t *testing.T, d impl.Deck, want bool) {
	t.Helper()
	if got := impl.DeckOK(d); got != want {
		t.Error("DeckOK of", len(d.Pulses), "pulses at", d.Index, d.Left, "level", d.Level, "plays", d.Plays, "is", got, short(d.Pulses))
	}
}

func TestDeckOKOfRightAndWrongOnes(t *testing.T) {
	for _, d := range rightDecks() {
		wantDeckOK(t, d, true)
	}
	for _, w := range wrongDecks() {
		if impl.DeckOK(w.d) {
			t.Error("DeckOK where", w.name, short(w.d))
		}
	}
}

func TestDeckOKWithoutAPulse(t *testing.T) {
	for _, pulses := range [][]int{nil, {}} {
		for _, level := range []bool{false, true} {
			for index := -2; index <= 2; index++ {
				for left := -2; left <= 2; left++ {
					right := index == 0 && left == 0
					wantDeckOK(t, impl.Deck{Pulses: pulses, Index: index, Left: left, Level: level}, right)
					wantDeckOK(t, impl.Deck{Pulses: pulses, Index: index, Left: left, Level: level, Plays: true}, false)
				}
			}
		}
	}
}

func TestDeckOKByHowManyPulses(t *testing.T) {
	for _, n := range []int{1, 2, 1000, impl.MaxList - 1, impl.MaxList, impl.MaxList + 1, 4999, 5000, 5001, 5002, 8192, 10000, impl.MaxText + 1} {
		right := n <= 5000
		pulses := mixedPulses(n)
		for _, index := range []int{0, n / 2, n - 1} {
			withBoth(deckOf(pulses, index, 1, false, false), func(d impl.Deck) { wantDeckOK(t, d, right) })
			withBoth(deckOf(pulses, index, pulses[index], false, false), func(d impl.Deck) { wantDeckOK(t, d, right) })
		}
		withBoth(deckOf(pulses, n, 0, false, false), func(d impl.Deck) { wantDeckOK(t, d, right) })
	}
}

func TestDeckOKByEachPulse(t *testing.T) {
	for _, n := range []int{1, 2, 3, 17, mostPulses} {
		d := deckOf(slices.Repeat([]int{500}, n), 0, 1, false, false)
		for i := range n {
			for _, c := range []struct {
				length int
				right  bool
			}{{0, false}, {1, true}, {1000, true}, {1001, false}} {
				d.Pulses[i] = c.length
				wantDeckOK(t, d, c.right)
				d.Index, d.Left = n, 0
				wantDeckOK(t, d, c.right)
				d.Index, d.Left = 0, 1
			}
			d.Pulses[i] = 500
		}
	}
	for _, wrong := range noPulses() {
		for i := range 4 {
			pulses := []int{7, 7, 7, 7}
			pulses[i] = wrong
			for index := range 4 {
				wantDeckOK(t, deckOf(pulses, index, 1, false, true), false)
				wantDeckOK(t, deckOf(pulses, index, 7, false, false), false)
			}
			wantDeckOK(t, deckOf(pulses, 4, 0, false, false), false)
		}
	}
}

func TestDeckOKByIndexAndLeft(t *testing.T) {
	for _, pulses := range [][]int{{1}, {1000}, {3, 1, 5}, {5, 1000, 1, 2}} {
		n := len(pulses)
		for index := -2; index <= n+2; index++ {
			for left := -3; left <= 1003; left++ {
				right := index == n && left == 0
				if index >= 0 && index < n {
					right = left >= 1 && left <= pulses[index]
				}
				withBoth(deckOf(pulses, index, left, false, false), func(d impl.Deck) { wantDeckOK(t, d, right) })
			}
			for _, left := range []int{math.MinInt, math.MinInt + 1, -1 << 32, 1 << 32, 1<<32 + 1, math.MaxInt - 1, math.MaxInt} {
				withBoth(deckOf(pulses, index, left, false, false), func(d impl.Deck) { wantDeckOK(t, d, false) })
			}
		}
		for _, index := range []int{math.MinInt, math.MinInt + 1, -1 << 32, 1 << 32, 1<<32 + 1, math.MaxInt - 1, math.MaxInt} {
			for _, left := range []int{math.MinInt, -1, 0, 1, 2, math.MaxInt} {
				withBoth(deckOf(pulses, index, left, false, false), func(d impl.Deck) { wantDeckOK(t, d, false) })
			}
		}
	}
}

// At the end it does not play, and nothing is left.
func TestDeckOKAtTheEnd(t *testing.T) {
	for _, pulses := range [][]int{{1}, {2, 1000}, mixedPulses(43), mixedPulses(mostPulses)} {
		for _, level := range []bool{false, true} {
			for _, left := range []int{math.MinInt, -1, 0, 1, 2, 1000, math.MaxInt} {
				wantDeckOK(t, deckOf(pulses, len(pulses), left, level, false), left == 0)
				wantDeckOK(t, deckOf(pulses, len(pulses), left, level, true), false)
			}
		}
	}
}

func checkDeck(t *testing.T, call string, from, got impl.Deck, code int, want impl.Deck, wantCode int) {
	t.Helper()
	if code != wantCode || !alikeDecks(got, want) {
		t.Error(call, "of", short(from), "is at", got.Index, got.Left, "level", got.Level, "plays", got.Plays, len(got.Pulses), "pulses, code", code, "not", want.Index, want.Left, want.Level, want.Plays, len(want.Pulses), wantCode)
	}
}

func TestCallsOfWrongDecks(t *testing.T) {
	for _, w := range wrongDecks() {
		play, playCode := impl.PlayDeck(w.d)
		checkDeck(t, "where "+w.name+", PlayDeck", w.d, play, playCode, impl.Deck{}, impl.ErrBad)
		stop, stopCode := impl.StopDeck(w.d)
		checkDeck(t, "where "+w.name+", StopDeck", w.d, stop, stopCode, impl.Deck{}, impl.ErrBad)
		rewind, rewindCode := impl.RewindDeck(w.d)
		checkDeck(t, "where "+w.name+", RewindDeck", w.d, rewind, rewindCode, impl.Deck{}, impl.ErrBad)
		for _, n := range []int{math.MinInt, -1, 0, 1, 100000, 100001, math.MaxInt} {
			run, edges, runCode := impl.RunDeck(w.d, n)
			checkDeck(t, "where "+w.name+", RunDeck", w.d, run, runCode, impl.Deck{}, impl.ErrBad)
			if edges != 0 {
				t.Error("where", w.name, "RunDeck has", edges, "edges")
			}
		}
	}
}

// One that plays already goes on playing; one at its end is as it was.
func TestPlayDeck(t *testing.T) {
	for _, d := range rightDecks() {
		want, wantCode := copyDeck(d), impl.OK
		if d.Index == len(d.Pulses) {
			wantCode = impl.ErrEnd
		} else {
			want.Plays = true
		}
		got, code := impl.PlayDeck(d)
		checkDeck(t, "PlayDeck", d, got, code, want, wantCode)
	}
}

func TestPlayDeckAtEachPlace(t *testing.T) {
	pulses := []int{3, 1, 1000, 2}
	for index, length := range pulses {
		for left := 1; left <= length; left++ {
			withBoth(deckOf(pulses, index, left, false, false), func(d impl.Deck) {
				got, code := impl.PlayDeck(d)
				checkDeck(t, "PlayDeck", d, got, code, deckOf(pulses, index, left, d.Level, true), impl.OK)
			})
		}
	}
	for _, none := range [][]int{nil, {}} {
		for _, level := range []bool{false, true} {
			d := impl.Deck{Pulses: none, Level: level}
			got, code := impl.PlayDeck(d)
			checkDeck(t, "PlayDeck", d, got, code, d, impl.ErrEnd)
		}
	}
}

// One that does not play is as it was, at its end, too.
func TestStopDeck(t *testing.T) {
	for _, d := range rightDecks() {
		want, wantCode := copyDeck(d), impl.OK
		if d.Plays {
			want.Plays = false
		} else {
			wantCode = impl.ErrStopped
		}
		got, code := impl.StopDeck(d)
		checkDeck(t, "StopDeck", d, got, code, want, wantCode)
	}
}

func TestRewindDeck(t *testing.T) {
	for _, d := range rightDecks() {
		want := impl.Deck{Pulses: slices.Clone(d.Pulses)}
		if len(d.Pulses) > 0 {
			want.Left = d.Pulses[0]
		}
		got, code := impl.RewindDeck(d)
		checkDeck(t, "RewindDeck", d, got, code, want, impl.OK)
	}
}

func TestRewindDeckIsAsNew(t *testing.T) {
	for n := range impl.MaxBlocks + 1 {
		first, _ := impl.NewDeck(tapeOf(n))
		d, _ := impl.PlayDeck(first)
		for range 20 {
			got, code := impl.RewindDeck(d)
			checkDeck(t, "RewindDeck", d, got, code, first, impl.OK)
			d, _, _ = impl.RunDeck(d, 7777)
		}
	}
}

// sameBothWays asks in both orders.
func sameBothWays(t *testing.T, how string, a, b impl.Deck, want bool) {
	t.Helper()
	if impl.SameDeck(a, b) != want || impl.SameDeck(b, a) != want {
		t.Error(how, "SameDeck of", short(a), "and", short(b), "is not", want)
	}
}

func TestSameDeckOfAlikeOnes(t *testing.T) {
	for _, d := range rightDecks() {
		sameBothWays(t, "alike", d, d, true)
		sameBothWays(t, "copied", d, copyDeck(d), true)
	}
	sameBothWays(t, "nil and empty", impl.Deck{}, impl.Deck{Pulses: []int{}}, true)
}

func TestSameDeckOfOnesThatAreOtherwise(t *testing.T) {
	list := rightDecks()
	for i, a := range list {
		for j, b := range list {
			if want := alikeDecks(a, b); impl.SameDeck(a, b) != want {
				t.Error("SameDeck of", i, "and", j, "is not", want, short(a), short(b))
			}
		}
	}
	base := deckOf([]int{9, 9, 9}, 1, 4, false, false)
	for name, other := range map[string]impl.Deck{
		"another first pulse":        deckOf([]int{8, 9, 9}, 1, 4, false, false),
		"another pulse at Index":     deckOf([]int{9, 8, 9}, 1, 4, false, false),
		"another last pulse":         deckOf([]int{9, 9, 8}, 1, 4, false, false),
		"a pulse more":               deckOf([]int{9, 9, 9, 9}, 1, 4, false, false),
		"a pulse less":               deckOf([]int{9, 9}, 1, 4, false, false),
		"another Index ahead":        deckOf([]int{9, 9, 9}, 0, 4, false, false),
		"another Index behind":       deckOf([]int{9, 9, 9}, 2, 4, false, false),
		"another Left":               deckOf([]int{9, 9, 9}, 1, 5, false, false),
		"another Level":              deckOf([]int{9, 9, 9}, 1, 4, true, false),
		"one that plays":             deckOf([]int{9, 9, 9}, 1, 4, false, true),
		"one that plays, level high": deckOf([]int{9, 9, 9}, 1, 4, true, true),
	} {
		sameBothWays(t, name, base, other, false)
		sameBothWays(t, name, other, other, true)
	}
}

func TestSameDeckByEachPulse(t *testing.T) {
	a := deckOf(mixedPulses(mostPulses), 0, 1, false, false)
	for i := range a.Pulses {
		b := copyDeck(a)
		b.Pulses[i] = 1 + b.Pulses[i]%1000
		if impl.SameDeck(a, b) {
			t.Error("with another pulse at", i, "SameDeck is true")
		}
	}
}

// None is the same as another that is not right, not even as itself.
func TestSameDeckOfWrongOnes(t *testing.T) {
	right := deckOf([]int{5}, 0, 5, false, false)
	for _, w := range wrongDecks() {
		sameBothWays(t, w.name, w.d, w.d, false)
		sameBothWays(t, w.name, w.d, copyDeck(w.d), false)
		sameBothWays(t, w.name, w.d, right, false)
		sameBothWays(t, w.name, w.d, impl.Deck{}, false)
	}
}
