package tests

import (
	"slices"
	"testing"

	"loop.example/g00644/impl"
)

// deckAnswers are the decks that each call answers which takes one, each of a call of its own.
func deckAnswers(d impl.Deck) []namedDeck {
	play, _ := impl.PlayDeck(d)
	stop, _ := impl.StopDeck(d)
	rewind, _ := impl.RewindDeck(d)
	list := []namedDeck{{"PlayDeck", play}, {"StopDeck", stop}, {"RewindDeck", rewind}}
	for _, n := range []int{0, 1, 60, 1000, mostRun, -1, mostRun + 1} {
		run, _, _ := impl.RunDeck(d, n)
		list = append(list, namedDeck{"RunDeck", run})
	}
	return list
}

func TestDecksThatAreHandedInStay(t *testing.T) {
	list := rightDecks()
	for _, w := range wrongDecks() {
		list = append(list, w.d)
	}
	for _, from := range list {
		d := from
		narrow, wide := roomyNumbers(from.Pulses)
		d.Pulses = narrow
		want := slices.Clone(wide)
		deckAnswers(d)
		impl.DeckOK(d)
		impl.SameDeck(d, d)
		impl.SameDeck(d, from)
		impl.SameDeck(from, d)
		if !alikeDecks(d, from) || !slices.Equal(wide, want) {
			t.Error("a deck that was handed in is changed:", short(from))
		}
	}
}

// An answer is written over, and what was handed in stays; what was handed in is written over, and the answers stay.
func TestAnswersOfDecksShareNothingWithArguments(t *testing.T) {
	for _, from := range rightDecks() {
		narrow, wide := roomyNumbers(from.Pulses)
		d := from
		d.Pulses = narrow
		want := slices.Clone(wide)
		for _, x := range deckAnswers(d) {
			scribbleNumbers(x.d.Pulses)
			if !slices.Equal(wide, want) {
				t.Fatal("the pulses that", x.name, "answers are those of its argument")
			}
		}
		answers := deckAnswers(d)
		scribbleNumbers(wide)
		for i, x := range deckAnswers(from) {
			if !alikeDecks(answers[i].d, x.d) {
				t.Fatal("the pulses that", x.name, "answers are those of its argument")
			}
		}
	}
}

func TestAnswersOfDecksShareNothingWithEachOther(t *testing.T) {
	for _, d := range rightDecks() {
		want, first, second := deckAnswers(d), deckAnswers(d), deckAnswers(d)
		for i, x := range first {
			scribbleNumbers(x.d.Pulses)
			for j, y := range second {
				if !alikeDecks(y.d, want[j].d) || j > i && !alikeDecks(first[j].d, want[j].d) {
					t.Fatal("answers of", x.name, "and", y.name, "share memory")
				}
			}
		}
		for i, x := range deckAnswers(d) {
			if !alikeDecks(x.d, want[i].d) {
				t.Fatal("what", x.name, "answers hangs on an answer that was written over")
			}
		}
	}
}

func TestNewDecksShareNothing(t *testing.T) {
	for n := range impl.MaxBlocks + 1 {
		list, wide := roomyTape(tapeOf(n))
		want := slices.Clone(wide)
		first, _ := impl.NewDeck(list)
		second, _ := impl.NewDeck(list)
		scribbleNumbers(first.Pulses)
		if third, _ := impl.NewDeck(list); !slices.Equal(second.Pulses, tapePulsesWritten(list...)) || !slices.Equal(third.Pulses, second.Pulses) {
			t.Error("of", n, "blocks two answers of NewDeck share memory")
		}
		if !slices.Equal(wide, want) {
			t.Error("NewDeck changes its list of", n, "to", short(wide))
		}
	}
}

func TestBlocksOfADeckStay(t *testing.T) {
	for _, n := range []int{0, 1, impl.MaxBlock, impl.MaxBlock + 1} {
		s := blockOf(33, n).Data
		given, bytes := unsafeText(s)
		b := impl.Block{Flag: 33, Data: given}
		impl.NewDeck([]impl.Block{b, b})
		if string(bytes) != s+"behind" {
			t.Fatalf("data that was handed in is changed to %x", bytes)
		}
	}
}
