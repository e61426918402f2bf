package tests

import (
	"slices"
	"testing"

	"loop.example/g00644/impl"
)

// manyScripts are lists of lines of all kinds, and some that are too long.
func manyScripts() [][]string {
	list := [][]string{nil, silentLines(), wrongLines(), codeLines("in 0", "out 0", "jp 7 65"), make([]string, 61), make([]string, impl.MaxList+1)}
	l := lot(1604)
	for n := range 63 {
		list = append(list, l.someLines(n))
	}
	everything := []string{"tape " + hexOf(textWritten(tapeOf(3)...)), "play", "save", "frames 2", "step", "machine", "screen", "events", "code", "poke 70 1", "peek 70", "load", "joy 3", "key 1 1 down"}
	return append(list, everything)
}

// A roomyScript has room behind the end of its list, and its texts are bytes that can be looked at by another name.
type roomyScript struct {
	lines, wide []string
	bytes       [][]byte
}

func roomyScriptOf(from []string) roomyScript {
	var r roomyScript
	for _, s := range from {
		text, bytes := unsafeText(s)
		r.wide, r.bytes = append(r.wide, text), append(r.bytes, bytes)
	}
	r.wide = append(r.wide, "behind", "the", "end")
	r.lines = r.wide[:len(from)]
	return r
}

func (r roomyScript) isAs(from []string) bool {
	for i, s := range from {
		if r.wide[i] != s || string(r.bytes[i]) != s+"behind" {
			return false
		}
	}
	return slices.Equal(r.wide[len(from):], []string{"behind", "the", "end"})
}

// scribbleOver writes over all that was handed in.
func (r roomyScript) scribbleOver() {
	for _, bytes := range r.bytes {
		clear(bytes)
	}
	clear(r.wide)
}

func TestLinesThatAreHandedInStay(t *testing.T) {
	for _, from := range manyScripts() {
		r := roomyScriptOf(from)
		impl.RunLines(r.lines)
		if !r.isAs(from) {
			t.Fatal("lines that were handed in are changed:", short(from), short(r.wide))
		}
		text, bytes := unsafeText(asText(from))
		impl.Console(text)
		if string(bytes) != asText(from)+"behind" {
			t.Fatal("a text that was handed in is changed:", short(bytes))
		}
	}
}

// What was handed in is written over, and the answers stay.
func TestAnswersOfLinesOwnTheirMemory(t *testing.T) {
	for _, from := range manyScripts() {
		if len(from) > 60 {
			continue
		}
		want, wantSaid := ranWritten(from)
		r := roomyScriptOf(from)
		m, said, code := impl.RunLines(r.lines)
		for i, s := range said {
			for _, line := range r.lines {
				if liesIn(s, line) {
					t.Fatal("what is said lies in a line:", i, s)
				}
			}
		}
		r.scribbleOver()
		checkMachine(t, "RunLines of "+short(from), m, code, want, impl.OK)
		if !slices.Equal(said, wantSaid) {
			t.Fatal("what is said shares memory with the lines:", placeApart(said, wantSaid))
		}
		text, bytes := unsafeText(asText(from))
		all, _ := impl.Console(text)
		if liesIn(all, text) {
			t.Fatal("what a console says lies in its text:", short(all))
		}
		clear(bytes)
		if isTextOf(asText(from), from) && all != asText(wantSaid) {
			t.Fatal("what a console says shares memory with its text:", short(all))
		}
	}
}

// All that is answered is written over: the machine, and what is said.
func TestAnswersOfLinesShareNothingWithEachOther(t *testing.T) {
	for _, from := range manyScripts() {
		if len(from) > 60 {
			continue
		}
		want, wantSaid := ranWritten(from)
		first, firstSaid, _ := impl.RunLines(from)
		second, secondSaid, code := impl.RunLines(from)
		scribbleTexts(firstSaid)
		scribbleMachine(first)
		checkMachine(t, "RunLines of "+short(from), second, code, want, impl.OK)
		if !slices.Equal(secondSaid, wantSaid) {
			t.Fatal("two answers share memory:", placeApart(secondSaid, wantSaid))
		}
		third, thirdSaid, code := impl.RunLines(from)
		scribbleTexts(thirdSaid)
		checkMachine(t, "RunLines of "+short(from), third, code, want, impl.OK)
	}
}

// A console keeps nothing: what one was told another does not know.
func TestConsolesDoNotKnowEachOther(t *testing.T) {
	for _, from := range manyScripts() {
		impl.RunLines(from)
		impl.Console(asText(from))
		checkSaid(t, []string{"machine", "events", "load", "play", "peek 70", "peek 0"}, slices.Concat(bareLines()["machine"], []string{"events 0", "error none", "error end", "byte 0", "byte 160"})...)
		if impl.PlainRom() != plainRomWritten() {
			t.Fatal("PlainRom is changed behind", short(from))
		}
	}
}
