package tests

import (
	"fmt"
	"slices"
	"strings"
	"testing"

	"loop.example/g00644/impl"
)

func tapeLine(text string) string { return "tape " + hexOf(text) }

// checkTapeLine says a right tape to a new console, and asks for its deck.
func checkTapeLine(t *testing.T, list []impl.Block) {
	t.Helper()
	m := checkSaid(t, []string{tapeLine(textWritten(list...))}, fmt.Sprint("blocks ", len(list)))
	want := firstMachine()
	want.Deck = deckOf(tapePulsesWritten(list...), 0, 48, false, false)
	checkMachine(t, fmt.Sprint("a tape of ", len(list)), m, impl.OK, want, impl.OK)
}

func TestTapeLinesByHand(t *testing.T) {
	m := checkSaid(t, []string{"tape 0200ffff", "machine"}, "blocks 1", "b00 c00 d00 e00 h00 l00 a00 f00 spff pc00", "frame 0 t 0 border 7", "page 0 screen 1", "tape 0 of 43 stopped", "level 0 events 0")
	if len(m.Deck.Pulses) != 43 || m.Deck.Left != 48 {
		t.Error("the deck is", m.Deck)
	}
	checkSaid(t, []string{"tape 0200ffff02000000", "tape 020000000400ff0102fc", "tape 0300010203", "tape 0300010202", "tape 030001"}, "blocks 2", "blocks 2", "blocks 1", "error sum", "error end")
}

func TestTapeLinesOfRightTapes(t *testing.T) {
	l := lot(1603)
	for n := 1; n <= impl.MaxBlocks; n++ {
		checkTapeLine(t, tapeOf(n))
		checkTapeLine(t, make([]impl.Block, n))
		checkTapeLine(t, slices.Repeat([]impl.Block{blockOf(0, impl.MaxBlock)}, n))
		checkTapeLine(t, slices.Repeat([]impl.Block{blockOf(255, impl.MaxBlock)}, n))
		for range 10 {
			checkTapeLine(t, l.someTape(n))
		}
	}
	for v := range 256 {
		checkTapeLine(t, []impl.Block{{Flag: v, Data: string([]byte{byte(v), byte(255 - v)})}})
	}
	for n := range impl.MaxBlock + 1 {
		checkTapeLine(t, []impl.Block{blockOf(3, n)})
	}
}

func TestTapeLinesWithoutWholeBytes(t *testing.T) {
	for _, s := range []string{"tape", "tape ", "  tape   ", "tape 0", "tape 020", "tape 0200fff", "tape 0200ffff0", "tape 0200ff ff", "tape 0200 ffff", "tape 02 00 ff ff", "tape 0200ffff 0200ffff", "tape 0200ffff #", "tape # 0200ffff", "tape tape 0200ffff", "0200ffff tape", "tape0200ffff", "tape 0x0200ffff", "tape #0200ffff", "tape -0200ffff", "tape zz", "tape 0200fffg", "tape 0200ff-1"} {
		checkNoLine(t, s)
	}
	checkNoLine(t, "tape "+times(3, "0200ffff")+"f")
}

// Only small digits are digits, as those are that are told.
func TestTapeLinesOfCapitalDigits(t *testing.T) {
	for _, s := range []string{"tape 0200FFFF", "tape 0200ffFF", "tape 0200Ffff", "tape 0200fffF", "TAPE 0200ffff", "tape 0A"} {
		checkNoLine(t, s)
	}
	right := "0300ab0ca7"
	checkSaid(t, []string{"tape " + right}, "blocks 1")
	for i := range right {
		if right[i] > '9' {
			checkNoLine(t, "tape "+right[:i]+strings.ToUpper(right[i:i+1])+right[i+1:])
		}
	}
}

// Each other byte in each place of a tape: a digit makes another tape, a blank another word.
func TestTapeLinesOfOtherSigns(t *testing.T) {
	right := "0200ffff"
	var lines []string
	for i := range right {
		for v := range 256 {
			lines = append(lines, "tape "+right[:i]+string([]byte{byte(v)})+right[i+1:])
		}
	}
	for from := 0; from < len(lines); from += 60 {
		_, said := checkTalk(t, lines[from:min(from+60, len(lines))])
		for _, s := range said {
			if !strings.HasPrefix(s, "error ") && s != "blocks 1" {
				t.Fatal("to a tape is said", s)
			}
		}
	}
}

// Each error that ReadTap tells, with its word.
func TestTapeLinesOfWrongTapes(t *testing.T) {
	words := codeWordsByHand()
	for _, faulty := range faultyBlocks() {
		for ahead := range impl.MaxBlocks + 1 {
			s := textWritten(tapeOf(ahead)...) + faulty.s
			checkRefused(t, tapeLine(s), "error "+words[faulty.code])
		}
	}
	for n := impl.MaxBlocks + 1; n < 12; n++ {
		checkRefused(t, tapeLine(textWritten(tapeOf(n)...)), "error many")
		checkRefused(t, tapeLine(textWritten(make([]impl.Block, n)...)), "error many")
	}
	for _, r := range []struct{ hex, word string }{
		{"00", "error end"}, {"02", "error end"}, {"0200", "error end"}, {"0200ff", "error end"}, {"0000", "error size"}, {"010000", "error size"},
		{"0200fffe", "error sum"}, {"0300ff0000", "error sum"}, {"0200ffff00", "error end"}, {"0200ffff0000", "error size"}, {"ffff", "error end"}, {"2b00" + times(43, "00"), "error size"}, {"2a00" + times(42, "00"), "blocks 1"}, {"2a00" + times(41, "00"), "error end"},
	} {
		if strings.HasPrefix(r.word, "error") {
			checkRefused(t, "tape "+r.hex, r.word)
		} else {
			checkSaid(t, []string{"tape " + r.hex}, r.word)
		}
	}
}

// ReadTap asks for no more than MaxText bytes, which are twice as many digits; the line itself is not asked.
func TestTapeLinesAboutTheBounds(t *testing.T) {
	six := textWritten(make([]impl.Block, 6)...)
	for n, word := range map[int]string{
		impl.MaxText - 1: "error end", impl.MaxText: "error end", impl.MaxText + 1: "error long", impl.MaxText + 2: "error long", 2 * impl.MaxText: "error long",
	} {
		checkSaid(t, []string{tapeLine(times(n, "\xff"))}, word)
		if word == "error end" {
			checkSaid(t, []string{tapeLine(six + six[:4] + times(n-28, "\x00"))}, "error many")
			checkSaid(t, []string{tapeLine(times(n, "\x00"))}, "error size")
			continue
		}
		checkSaid(t, []string{tapeLine(six + times(n-24, "\x00"))}, word)
		checkSaid(t, []string{tapeLine(times(n, "\x00")), "play"}, word, "error end")
		// What is not of digits is no tape, however long it is.
		checkSaid(t, []string{tapeLine(times(n, "\x00")) + "0"}, "error form")
		checkSaid(t, []string{tapeLine(times(n, "\x00")) + "0g"}, "error form")
		checkSaid(t, []string{"tape " + times(2*n, "A")}, "error form")
	}
	for _, digits := range []int{impl.MaxText, impl.MaxText + 2} {
		checkSaid(t, []string{"tape " + times(digits, "0")}, "error size")
		checkSaid(t, []string{"tape " + times(digits-1, "0")}, "error form")
	}
}

// A tape comes into a new deck: it is at its beginning and stopped, whatever the old one did.
func TestTapeOntoADeckThatPlays(t *testing.T) {
	list := tapeOf(2)
	for _, ahead := range [][]string{nil, {"play"}, {"tape 0200ffff"}, {"tape 0200ffff", "play"}, {"tape 0200ffff", "play", "frames 1"}, {"tape 0200ffff", "play", "step"}, {"tape 0200ffff", "play", "frames 6"}, {"tape 0200ffff", "play", "frames 2", "stop"}, {"tape 0200ffff", "play", "frames 1", "rewind", "play"}} {
		want, _ := ranWritten(ahead)
		want.Deck = deckOf(tapePulsesWritten(list...), 0, 48, false, false)
		m, said := checkTalk(t, append(slices.Clone(ahead), tapeLine(textWritten(list...))))
		checkMachine(t, fmt.Sprint("behind ", ahead), m, impl.OK, want, impl.OK)
		if said[len(said)-1] != "blocks 2" {
			t.Error("behind", ahead, "is said", said)
		}
	}
}

// A tape that is none leaves the old one where it is.
func TestNoTapeOntoADeckThatPlays(t *testing.T) {
	ahead := []string{tapeLine(textWritten(tapeOf(3)...)), "play", "frames 2", "step"}
	want, _ := ranWritten(ahead)
	for _, s := range []string{"tape", "tape 0", "tape zz", "tape 00", "tape 0000", "tape 0200fffe", tapeLine(textWritten(tapeOf(7)...)), tapeLine(times(impl.MaxText+1, "\x00"))} {
		m, said := checkTalk(t, append(slices.Clone(ahead), s))
		checkMachine(t, "behind "+short(s), m, impl.OK, want, impl.OK)
		if !m.Deck.Plays || !strings.HasPrefix(said[len(said)-1], "error ") {
			t.Error("behind", short(s), "is said", said[len(said)-1])
		}
	}
}

// A tape plays as one that a machine was made with.
func TestTapeThatPlays(t *testing.T) {
	for n := 1; n <= impl.MaxBlocks; n++ {
		list := tapeOf(n)
		m, said := checkTalk(t, []string{tapeLine(textWritten(list...)), "play", "frames 6", "step", "stop", "frames 1", "play", "frames 2"})
		if n > 2 && !slices.Equal(said, append([]string{fmt.Sprint("blocks ", n)}, saidOK(said[1:])...)) {
			t.Error("of", n, "blocks is said", said)
		}
		made, code := impl.NewMachine(impl.PlainRom(), list)
		for _, a := range []impl.Act{{Kind: 3}, {Kind: 6, A: 6}, {}, {Kind: 4}, {Kind: 6, A: 1}, {Kind: 3}, {Kind: 6, A: 2}} {
			if a.Kind == 0 {
				made, code = impl.StepMachine(made)
			} else {
				made, code = impl.ActDo(made, a)
			}
		}
		checkMachine(t, "a tape that plays", m, impl.OK, made, code)
	}
}
