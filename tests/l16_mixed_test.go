package tests

import (
	"fmt"
	"slices"
	"strings"
	"testing"
)

func hexOf(s string) string { return fmt.Sprintf("%x", s) }

// codeLines lead the processor to code of their own in the memory: the first interrupt comes back to 65 instead of to where it came from. What it adds one to is the cell ahead of the code.
func codeLines(code ...string) []string {
	lines := []string{"frames 1", "step", "poke 254 65"}
	for i, v := range bytesOfLines(code...) {
		lines = append(lines, fmt.Sprintf("poke %d %d", 65+i, v))
	}
	return append(lines, "step", "step", "step", "step")
}

// saidOK is what is said to lines of which each one is done.
func saidOK(lines []string) []string { return slices.Repeat([]string{"ok"}, len(lines)) }

// someTapeLine is of a tape that is right, cut off, spoilt, or with too many blocks.
func (l *lot) someTapeLine() string {
	hex := hexOf(textWritten(l.someTape(l.below(8))...))
	switch l.below(6) {
	case 5:
		hex += hexOf(faultyBlocks()[l.below(len(faultyBlocks()))].s)
	case 0:
		hex = hex[:l.below(len(hex)+1)]
	case 1:
		if len(hex) > 0 {
			at := l.below(len(hex))
			hex = hex[:at] + "0123456789abcdefgA"[l.below(18):][:1] + hex[at+1:]
		}
	}
	return "tape " + hex
}

func (l *lot) someNumber() string {
	if l.below(10) == 0 {
		list := spoilt("7")
		return list[l.below(len(list))]
	}
	return fmt.Sprint(l.someByte())
}

// wrongLines are no lines of any kind.
func wrongLines() []string {
	return []string{
		"go", "ok", "error form", "STEP", "Step", "steps", "ste", "step 1", "machine 1", "machines", "screen 0", "events 1", "event", "code 16", "tape", "tape 0", "tape 0 0", "tapes 00",
		"poke", "poke 1", "poke 1 2 3", "peek", "peek 1 2", "key 1 1", "key 0 5 down", "joy", "joy 32", "frames", "frames 7", "play 1", "play up", "save x", "load load", "stop stop", "rewind 0",
		"blocks 1", "byte 1", "nop", "ei", "0", "-", "\t", "step\t", "\xff", "é", "stepé", "st ep", "peek0", "peek\t0", "poke 1,2", "tape 0x00", "tape 00 00",
	}
}

// someLine is of all kinds, most of them right.
func (l *lot) someLine() string {
	switch l.below(14) {
	case 0, 1:
		return actTextWritten(l.someAct())
	case 2:
		return []string{"play", "stop", "rewind", "save", "load"}[l.below(5)]
	case 3:
		return []string{"frames 1", "frames 2"}[l.below(2)]
	case 4, 5:
		return "step"
	case 6:
		return []string{"machine", "screen", "events", "code"}[l.below(4)]
	case 7:
		return []string{"machine", "events"}[l.below(2)]
	case 8:
		return l.someTapeLine()
	case 9, 10:
		return "poke " + l.someNumber() + " " + l.someNumber()
	case 11:
		return []string{"poke 64 255", "peek 64", "peek 65", "peek " + l.someNumber()}[l.below(4)]
	case 12:
		return []string{"", " ", "# nothing", "  #x"}[l.below(4)]
	}
	return wrongLines()[l.below(len(wrongLines()))]
}

func (l *lot) someLines(n int) []string {
	lines := make([]string, n)
	for i := range lines {
		lines[i] = l.someLine()
		if l.below(5) == 0 {
			lines[i] = " " + strings.ReplaceAll(lines[i], " ", "  ") + "  "
		}
	}
	return lines
}

// Lines of all kinds in all orders, as the chapter is written a second time.
func TestMixedLines(t *testing.T) {
	l := lot(1602)
	words := map[string]int{}
	for i := range 250 {
		lines := l.someLines(1 + l.below(60))
		if i%3 == 0 {
			lines = slices.Concat(codeLines("in 0", "sta 200", "inc 7", "out 0", "out 3", "out 5", "jp 7 65"), l.someLines(1+l.below(30)))
		}
		_, said := checkTalk(t, lines)
		for _, s := range said {
			words[s]++
		}
	}
	for _, s := range []string{"ok", "error form", "error end", "error stopped", "error none", "error sum", "error many", "error size", "blocks 6", "events 0", "byte 0", "byte 255", "00 ei"} {
		if words[s] == 0 {
			t.Errorf("%q was never said", s)
		}
	}
}

func TestPairsOfLines(t *testing.T) {
	lines := []string{"", "# x", "go", "key 2 1 down", "joy 5", "play", "stop", "rewind", "frames 1", "save", "load", "step", "machine", "screen", "events", "code", "tape 0200ffff", "tape 00", "tape 0", "poke 65 9", "poke 256 1", "peek 65", "peek x"}
	for _, first := range lines {
		for _, second := range lines {
			checkTalk(t, []string{first, second})
			checkTalk(t, []string{first, second, first, second, "machine"})
			checkTalk(t, []string{"tape 0200ffff", "play", "frames 1", first, second, "machine", "events"})
		}
	}
}
