package tests

import (
	"strings"
	"testing"

	"loop.example/g00644/impl"
)

// actBack tells an act, and reads its text with more blanks and without.
func actBack(t *testing.T, a impl.Act) string {
	t.Helper()
	text, code := impl.ActText(a)
	if code != impl.OK || text == "" {
		t.Fatal("ActText of", a, "is", text, code)
	}
	for _, s := range []string{text, " " + text, text + " ", strings.ReplaceAll(text, " ", "   ")} {
		if x, code := impl.ReadAct(s); x != a || code != impl.OK {
			t.Fatalf("ActText of %v is %q and ReadAct of %q %v %d", a, text, s, x, code)
		}
	}
	return text
}

func TestPromise16(t *testing.T) {
	for _, a := range rightActs() {
		actBack(t, a)
	}
}

// Whatever numbers an act has: it is read back if it is right, and has no text if it is not.
func TestPromise16OfAllThatIsRight(t *testing.T) {
	right := 0
	for kind := -1; kind <= 9; kind++ {
		for a := -1; a <= 33; a++ {
			for b := -1; b <= 8; b++ {
				for _, down := range []bool{false, true} {
					act := impl.Act{Kind: kind, A: a, B: b, Down: down}
					if impl.ActOK(act) {
						actBack(t, act)
						right++
					} else if text, code := impl.ActText(act); text != "" || code != impl.ErrBad {
						t.Error("ActText of", act, "is", text, code)
					}
				}
			}
		}
	}
	if right != len(rightActs()) {
		t.Error("there are", right, "acts")
	}
}

// No two acts have one text.
func TestPromise16NoTwoAlike(t *testing.T) {
	texts := map[string]impl.Act{}
	for _, a := range rightActs() {
		text := actBack(t, a)
		if x, there := texts[text]; there {
			t.Error(text, "is the text of", x, "and of", a)
		}
		texts[text] = a
	}
}

// What is read is an act, and its text is what was read but for blanks: of all lines of up to four words.
func TestPromise16FromTextsToActs(t *testing.T) {
	words := []string{"key", "joy", "frames", "play", "stop", "rewind", "save", "load", "0", "1", "3", "4", "6", "7", "31", "32", "up", "down", "01", "-1"}
	read := map[impl.Act]int{}
	var try func(s string, left int)
	try = func(s string, left int) {
		if a, code := impl.ReadAct(s); code == impl.OK {
			read[a]++
			if text := actBack(t, a); !impl.ActOK(a) || text != strings.Join(strings.Fields(s), " ") {
				t.Fatalf("ReadAct of %q is %v, and its text %q", s, a, text)
			}
		} else if a != (impl.Act{}) || code != impl.ErrForm {
			t.Fatalf("ReadAct of %q is %v %d", s, a, code)
		}
		for i := 0; i < len(words) && left > 0; i++ {
			try(s+times(1+left%2, " ")+words[i], left-1)
		}
	}
	try("", 4)
	// Keys of six rows with four keys each, up and down; seven of joy, and five of frames; and five without a number.
	if len(read) != 48+7+5+5 {
		t.Error("read were", len(read), "acts")
	}
	for a, n := range read {
		if n != 1 {
			t.Error(a, "was read", n, "times")
		}
	}
}

// Acts that are read do what those do that were told.
func TestPromise16OfRuns(t *testing.T) {
	l := lot(1601)
	for _, name := range namesOfPrograms() {
		acts := l.someActs(20)
		var back []impl.Act
		for _, a := range acts {
			text, _ := impl.ActText(a)
			x, _ := impl.ReadAct(text)
			back = append(back, x)
		}
		m, _, code := impl.ActsRun(programs()[name], tapeOf(2), acts)
		n, _, codeBack := impl.ActsRun(programs()[name], tapeOf(2), back)
		checkMachine(t, name, n, codeBack, m, code)
	}
}
