package tests

import (
	"fmt"
	"slices"
	"strings"
	"testing"

	"loop.example/g00644/impl"
)

// saidTo asks both calls, which say the same where the lines stand in a text, of no more lines than a console takes.
func saidTo(t *testing.T, lines []string) []string {
	t.Helper()
	_, said, code := impl.RunLines(lines)
	if code != impl.OK {
		t.Fatal("RunLines of", len(lines), "lines is", code)
	}
	if text := asText(lines); isTextOf(text, lines) {
		checkConsole(t, text, asText(said), impl.OK)
	}
	return said
}

// checkBeginning wants what is said to the first n lines alone to be the beginning of what is said to all.
func checkBeginning(t *testing.T, lines []string, n int) {
	t.Helper()
	all, first := saidTo(t, lines), saidTo(t, lines[:n])
	if len(first) > len(all) || !slices.Equal(all[:len(first)], first) {
		t.Fatal("to the first", n, "of", short(lines), "is said", placeApart(all, first))
	}
}

func TestPromise17(t *testing.T) {
	l := lot(1701)
	for range 60 {
		lines := l.someLines(1 + l.below(60))
		for n := range len(lines) + 1 {
			checkBeginning(t, lines, n)
		}
	}
}

// Whatever comes behind the first lines, they are said to as if they were alone.
func TestPromise17OfOtherEnds(t *testing.T) {
	l := lot(1702)
	ends := append(silentLines()[:3], wrongLines()...)
	ends = append(ends, "step", "machine", "screen", "events", "code", "play", "stop", "rewind", "save", "load", "frames 6", "joy 9", "key 1 1 down", "tape 0200ffff", "tape 00", "tape "+times(6000, "f"), "poke 64 1", "poke 254 65", "peek 64", "x"+times(3000, "x"))
	for range 12 {
		lines := slices.Clip(l.someLines(1 + l.below(40)))
		first := saidTo(t, lines)
		for _, end := range ends {
			for _, behind := range [][]string{{end}, {end, "machine", end}, slices.Repeat([]string{end}, 60-len(lines))} {
				all := saidTo(t, append(lines, behind...))
				if len(all) < len(first) || !slices.Equal(all[:len(first)], first) {
					t.Fatal("ahead of", short(behind), "is said", placeApart(all, first))
				}
			}
		}
	}
}

// What is said to one line more stands behind all that was said ahead of it, and is of that line alone.
func TestPromise17LineByLine(t *testing.T) {
	l := lot(1703)
	forms := formsOfLines()
	for range 40 {
		lines := l.someLines(60)
		var m impl.Machine
		var said []string
		for n := range 61 {
			x, all, code := impl.RunLines(lines[:n])
			if n > 0 {
				_, more := saidWritten(forms, m, lines[n-1])
				said = append(said, more...)
			}
			if code != impl.OK || !slices.Equal(all, said) {
				t.Fatal("to", n, "lines is said", placeApart(all, said), code)
			}
			m = x
		}
	}
}

// If there are more than it takes nothing is said, to none of them.
func TestPromise17OfTooMany(t *testing.T) {
	l := lot(1704)
	for n := 61; n < 80; n++ {
		lines := l.someLines(n)
		checkNoRun(t, lines, impl.ErrMany)
		checkConsole(t, asText(lines), "", impl.ErrMany)
		saidTo(t, lines[:60])
	}
}

// Of a text, too, wherever it is cut off behind a line.
func TestPromise17OfTexts(t *testing.T) {
	l := lot(1705)
	for range 40 {
		text := asText(l.someLines(1 + l.below(60)))
		all, code := impl.Console(text)
		if code != impl.OK {
			t.Fatal("Console is", code)
		}
		for end := range len(text) + 1 {
			if end > 0 && text[end-1] != '\n' {
				continue
			}
			first, code := impl.Console(text[:end])
			if !strings.HasPrefix(all, first) || code != impl.OK {
				t.Fatal("the first", end, "bytes are said", short(first), code)
			}
			// Cut off just ahead of the last line's end it is still that line.
			if end > 0 {
				if again, code := impl.Console(text[:end-1]); again != first || code != impl.OK {
					t.Fatal("without the last byte", end, "bytes are said", short(again), code)
				}
			}
		}
	}
}

// A line that panics within is like any other that is none: those ahead of it and those behind it are said to as they are without it.
func TestPromise17OfLinesThatAreNone(t *testing.T) {
	l := lot(1706)
	for range 30 {
		lines := l.someLines(20)
		want := saidTo(t, lines)
		for at := range len(lines) + 1 {
			wrong := wrongLines()[l.below(len(wrongLines()))]
			said := saidTo(t, slices.Insert(slices.Clone(lines), at, wrong))
			place := len(saidTo(t, lines[:at]))
			if said[place] != "error form" || !slices.Equal(slices.Delete(slices.Clone(said), place, place+1), want) {
				t.Fatal(fmt.Sprintf("with %q at %d", wrong, at), "is said", short(said), "not", short(want))
			}
		}
	}
}
