package tests

import (
	"fmt"
	"slices"
	"strings"
	"testing"

	"loop.example/g00644/impl"
)

// checkNoLine says a line to a machine that has something to lose; it is none, and changes nothing.
func checkNoLine(t *testing.T, s string) {
	t.Helper()
	checkRefused(t, s, "error form")
}

func checkRefused(t *testing.T, s, word string) {
	t.Helper()
	ahead := []string{"tape 0200ffff", "play", "frames 1", "step", "poke 70 9", "joy 3"}
	want, _ := ranWritten(ahead)
	m := checkSaid(t, slices.Concat(ahead, []string{s}), "blocks 1", "ok", "ok", "ok", "ok", "ok", word)
	checkMachine(t, "behind "+short(s), m, impl.OK, want, impl.OK)
	checkSaid(t, []string{s}, word)
}

// wideLines are s with more blanks, ahead, behind, and where one stands.
func wideLines(s string) []string {
	list := []string{"  " + s + "   ", strings.ReplaceAll(s, " ", "    ")}
	for _, place := range placesOfBlanks(s) {
		for _, n := range []int{1, 2, 40, impl.MaxText, impl.MaxText + 1} {
			list = append(list, s[:place]+times(n, " ")+s[place:])
		}
	}
	return list
}

func TestLinesOfEachAct(t *testing.T) {
	for _, a := range rightActs() {
		s := actTextWritten(a)
		want := "ok"
		switch a.Kind {
		case 3:
			want = "error end"
		case 4:
			want = "error stopped"
		case 8:
			want = "error none"
		}
		m := checkSaid(t, []string{s}, want)
		x, _ := actWritten(firstMachine(), a)
		checkMachine(t, s, m, impl.OK, x, impl.OK)
		checkSaid(t, []string{"tape 0200ffff", "play", "save", s, s}, slices.Concat([]string{"blocks 1", "ok", "ok"}, playedTwice(a))...)
	}
}

// playedTwice is what is said to an act, and to it again, where a tape plays and something is saved.
func playedTwice(a impl.Act) []string {
	if a.Kind == 4 {
		return []string{"ok", "error stopped"}
	}
	return []string{"ok", "ok"}
}

func TestLinesOfActsWithMoreBlanks(t *testing.T) {
	for i, a := range rightActs() {
		want, wantSaid := ranWritten([]string{actTextWritten(a)})
		for k, wide := range wideLines(actTextWritten(a)) {
			if k > 4 && (i+k)%7 != 0 {
				continue
			}
			m := checkSaid(t, []string{wide}, wantSaid...)
			checkMachine(t, short(wide), m, impl.OK, want, impl.OK)
		}
	}
}

func TestLinesOfActsWithOtherWords(t *testing.T) {
	for _, s := range []string{"key 2 1 down", "key 7 4 up", "joy 31", "play", "stop", "rewind", "frames 1", "save", "load"} {
		words := strings.Fields(s)
		for i := range words {
			checkNoLine(t, strings.Join(append(slices.Clone(words[:i+1]), words[i:]...), " "))
			if len(words) > 1 {
				checkNoLine(t, strings.Join(slices.Delete(slices.Clone(words), i, i+1), " "))
			}
		}
		for _, more := range []string{"0", "1", "up", "x", "#", "step"} {
			checkNoLine(t, s+" "+more)
			if more != "#" {
				checkNoLine(t, more+" "+s)
			}
		}
		checkNoLine(t, strings.ToUpper(s))
		checkNoLine(t, strings.ToUpper(s[:1])+s[1:])
		for _, sign := range []string{"\t", "\n", "\r", "\x00", "\xff", "é", "\u00a0", ".", ","} {
			checkNoLine(t, s+sign)
			checkNoLine(t, sign+s)
		}
	}
	for _, s := range []string{"key 8 0 up", "key -1 0 up", "key 0 5 up", "key 0 -1 down", "key 00 0 up", "key 0 0 left", "joy 32", "joy -1", "joy 07", "joy +1", "frames 7", "frames -1", "frames 06", "frames 1000000000000000000"} {
		checkNoLine(t, s)
	}
}

// Each error that an act can answer to a console, with its word.
func TestLinesOfActsThatAnswerErrors(t *testing.T) {
	checkSaid(t, []string{"play", "stop", "load"}, "error end", "error stopped", "error none")
	checkSaid(t, []string{"rewind", "play"}, "ok", "error end")
	// A tape of one empty block lasts 1930 T: it is at its end behind four frames.
	at := []string{"tape 02000000", "play", "frames 4", "play", "stop", "rewind", "stop", "play", "stop", "stop"}
	checkSaid(t, at, "blocks 1", "ok", "ok", "error end", "error stopped", "ok", "error stopped", "ok", "ok", "error stopped")
	checkSaid(t, []string{"tape 0200ffff", "stop", "play", "play", "rewind", "stop"}, "blocks 1", "error stopped", "ok", "ok", "ok", "error stopped")
	checkSaid(t, []string{"load", "save", "load", "load"}, "error none", "ok", "ok", "ok")
}

// An act that can't be done leaves the machine as it was.
func TestLinesOfActsThatChangeNothing(t *testing.T) {
	ahead := []string{"poke 70 5", "frames 2", "step"}
	want, _ := ranWritten(ahead)
	for s, word := range map[string]string{"play": "error end", "stop": "error stopped", "load": "error none"} {
		m := checkSaid(t, append(slices.Clone(ahead), s), "ok", "ok", "ok", word)
		checkMachine(t, s, m, impl.OK, want, impl.OK)
	}
}

// bareLines are those of one word, and what the first machine says to them.
func bareLines() map[string][]string {
	dark := times(32, ".")
	return map[string][]string{
		"step":    {"ok"},
		"machine": {"b00 c00 d00 e00 h00 l00 a00 f00 spff pc00", "frame 0 t 0 border 7", "page 0 screen 1", "tape 0 of 0 stopped", "level 0 events 0"},
		"screen":  {dark, dark, dark, dark, dark, dark, dark, dark},
		"events":  {"events 0"},
		"code":    {"00 ei", "01 halt", "02 inc 0", "03 ld 7 0", "05 out 0", "07 jp 7 0", "09 nop", "0a nop", "0b nop", "0c nop", "0d nop", "0e nop", "0f nop"},
	}
}

func TestBareLines(t *testing.T) {
	for s, want := range bareLines() {
		m := checkSaid(t, []string{s}, want...)
		if s != "step" {
			checkMachine(t, s, m, impl.OK, firstMachine(), impl.OK)
			checkSaid(t, []string{s, s, s}, slices.Concat(want, want, want)...)
		}
		for i, wide := range wideLines(s) {
			if i < 6 {
				checkSaid(t, []string{wide}, want...)
			}
		}
		for _, more := range []string{"0", "1", s, "x", "#", "up", "\t", "\x00"} {
			checkNoLine(t, s+" "+more)
			checkNoLine(t, s+"   "+more+" ")
		}
		checkOtherSpellings(t, s)
	}
}

// checkOtherSpellings spoils a line's one word: capital letters, a sign left out, one more, and each other byte in each place (of step one makes stop).
func checkOtherSpellings(t *testing.T, word string) {
	t.Helper()
	checkNoLine(t, strings.ToUpper(word))
	for i := range word {
		checkNoLine(t, word[:i]+strings.ToUpper(word[i:i+1])+word[i+1:])
		checkNoLine(t, word[:i]+word[i+1:])
		checkNoLine(t, word[:i+1]+word[i:])
	}
	var spoiltOnes []string
	for i := range word {
		for v := range 256 {
			sign := string([]byte{byte(v)})
			for _, s := range []string{word[:i] + sign + word[i+1:], word[:i] + sign + word[i:], word + sign} {
				if strings.Trim(s, " ") != word && s != "stop" && !strings.HasPrefix(s, "#") {
					spoiltOnes = append(spoiltOnes, s)
				}
			}
		}
	}
	for from := 0; from < len(spoiltOnes); from += 60 {
		part := spoiltOnes[from:min(from+60, len(spoiltOnes))]
		_, said, code := impl.RunLines(part)
		if want := slices.Repeat([]string{"error form"}, len(part)); !slices.Equal(said, want) || code != impl.OK {
			t.Fatalf("of %q spoilt: %d, %s", word, code, placeApart(said, want))
		}
	}
}

func TestCommandsWithOtherSigns(t *testing.T) {
	for _, word := range []string{"tape", "poke", "peek"} {
		checkOtherSpellings(t, word)
		for _, rest := range []string{" 00", " 0200ffff", " 1", " 1 1", " 70", " 70 70"} {
			checkNoLine(t, strings.ToUpper(word)+rest)
			checkNoLine(t, strings.ToUpper(word[:1])+word[1:]+rest)
			checkNoLine(t, word[1:]+rest)
			checkNoLine(t, word+"s"+rest)
			checkNoLine(t, word+rest[1:])
			checkNoLine(t, word+"\t"+rest[1:])
		}
	}
}

func TestStepLines(t *testing.T) {
	want := firstMachine()
	for n := range 60 {
		lines := slices.Repeat([]string{"step"}, n)
		m := checkSaid(t, lines, saidOK(lines)...)
		checkMachine(t, fmt.Sprint(n, " steps"), m, impl.OK, want, impl.OK)
		want, _ = laterWritten(want)
	}
	// What is noted in steps stays, up to the frame's end.
	lines := codeLines("inc 7", "out 0", "jp 7 65")
	for len(lines) < 59 {
		lines = append(lines, "step")
	}
	m, said := checkTalk(t, append(lines, "events"))
	if len(m.Events) < 10 || len(said) != 60+len(m.Events) {
		t.Error("in frame", m.Frames, "at", m.T, "there are", m.Events)
	}
	checkSaid(t, []string{"step", "step", "machine"}, "ok", "ok", "b00 c00 d00 e00 h00 l00 a00 f00 spff pc02 ei halt", "frame 0 t 8 border 7", "page 0 screen 1", "tape 0 of 0 stopped", "level 0 events 0")
}

// What is told is of the machine that earlier lines made.
func TestTellingLinesBehindOthers(t *testing.T) {
	lines := []string{"poke 64 129", "poke 95 24", "tape 0200ffff", "play", "frames 3", "step", "machine", "screen", "events", "code"}
	dark := times(32, ".")
	checkSaid(t, lines, slices.Concat(
		[]string{"ok", "ok", "blocks 1", "ok", "ok", "ok"},
		[]string{"b02 c00 d00 e00 h40 l00 a02 f00 spfe pc38", "frame 3 t 7 border 2", "page 0 screen 1", "tape 43 of 43 stopped", "level 0 events 1"},
		[]string{"#.....##........................", dark, dark, dark, dark, dark, dark, "...........................##..."},
		[]string{"0 int 2", "events 1"}, bareLines()["code"])...)
}

func TestEventsLines(t *testing.T) {
	checkSaid(t, []string{"events"}, "events 0")
	checkSaid(t, []string{"frames 1", "events"}, "ok", "events 0")
	checkSaid(t, []string{"frames 1", "step", "events"}, "ok", "ok", "0 int 2", "events 1")
	checkSaid(t, []string{"frames 2", "events", "frames 0", "events"}, "ok", "0 int 2", "57 border 1", "events 2", "ok", "0 int 2", "57 border 1", "events 2")
	many := append(codeLines("alun 0 19", "out 0", "out 3", "alun 0 1", "out 0", "out 3", "ld 0 7", "in 1", "ld 7 0", "jp 7 65"), "frames 1", "events")
	m, said := checkTalk(t, many)
	if last := said[len(said)-1]; len(m.Events) < 30 || last != fmt.Sprint("events ", len(m.Events)) || len(said) != len(many)+len(m.Events) {
		t.Error("of", len(m.Events), "events the last line is", last)
	}
	kinds := map[string]int{}
	for _, s := range said[len(many)-1 : len(said)-1] {
		kinds[strings.Fields(s)[1]]++
	}
	if kinds["border"] < 5 || kinds["psg"] < 5 || kinds["in"] < 5 || kinds["beep"] < 1 || kinds["int"] > 1 {
		t.Error("the kinds of events are", kinds)
	}
}

// The ROM that is listed is always the plain one, whatever is poked into it.
func TestCodeLines(t *testing.T) {
	want := bareLines()["code"]
	checkSaid(t, []string{"code"}, want...)
	var pokes []string
	for at := range 16 {
		pokes = append(pokes, fmt.Sprintf("poke %d 255", at))
	}
	checkSaid(t, append(pokes, "code"), slices.Concat(saidOK(pokes), want)...)
	checkSaid(t, []string{"frames 6", "step", "code", "save", "load", "code"}, slices.Concat([]string{"ok", "ok"}, want, []string{"ok", "ok"}, want)...)
}

func TestPokeAndPeekOfEachAddress(t *testing.T) {
	rom := plainRomWritten()
	for address := range 256 {
		poke := fmt.Sprintf("poke %d ", address)
		peek := fmt.Sprintf("peek %d", address)
		lines := []string{peek, poke + "255", peek, poke + "0", peek, poke + "7", peek, poke + "128"}
		if address < 64 {
			stays := fmt.Sprintf("byte %d", rom[address])
			m := checkSaid(t, lines, stays, "ok", stays, "ok", stays, "ok", stays, "ok")
			checkMachine(t, "the ROM stays", m, impl.OK, firstMachine(), impl.OK)
			continue
		}
		m := checkSaid(t, lines, "byte 0", "ok", "byte 255", "ok", "byte 0", "ok", "byte 7", "ok")
		want := firstMachine()
		*cellAt(want.Memory, address) = 128
		checkMachine(t, poke, m, impl.OK, want, impl.OK)
	}
}

func TestPokeOfEachByte(t *testing.T) {
	for v := range 256 {
		for _, address := range []int{64, 127, 128, 191, 192, 255} {
			checkSaid(t, []string{fmt.Sprintf("poke %d %d", address, v), fmt.Sprintf("peek %d", address)}, "ok", fmt.Sprintf("byte %d", v))
		}
	}
}

// Code that pages lets each bank be seen from 192 on; of bank 1, which is then shown twice, the second cell of the code is seen there, too.
func TestPokeAndPeekOfEachBank(t *testing.T) {
	for page := range 4 {
		for _, rest := range []int{0, 8, 32, 40} {
			lines := append(codeLines(fmt.Sprintf("ldn 7 %d", page+rest), "out 5", "jp 7 69"), "poke 100 11", "poke 150 22", "poke 250 33", "frames 1", "poke 200 44", "poke 130 55", "peek 72", "peek 100", "peek 136", "peek 150", "peek 200", "peek 194", "peek 228", "peek 214", "peek 250", "machine")
			m, said := checkTalk(t, lines)
			screen := 1
			if rest&8 != 0 {
				screen = 3
			}
			if m.Memory.Page != page || m.Memory.Screen != screen || m.Memory.Locked != (rest&32 != 0) || m.Memory.Ram[page][8] != 44 || m.Memory.Ram[2][2] != 55 || m.Memory.Ram[0][58] != 33 {
				t.Error("with", page+rest, "the memory is", m.Memory)
			}
			want := map[int][]string{
				0: {"byte 0", "byte 11", "byte 0", "byte 22", "byte 44", "byte 0", "byte 0", "byte 0", "byte 33"},
				1: {"byte 44", "byte 11", "byte 0", "byte 22", "byte 44", fmt.Sprint("byte ", 1+rest), "byte 11", "byte 0", "byte 0"},
				2: {"byte 0", "byte 11", "byte 44", "byte 22", "byte 44", "byte 55", "byte 0", "byte 22", "byte 0"},
				3: {"byte 0", "byte 11", "byte 0", "byte 22", "byte 44", "byte 0", "byte 0", "byte 0", "byte 0"},
			}[page]
			from := len(said) - 5 - len(want)
			if !slices.Equal(said[from:from+len(want)], want) {
				t.Error("with", page+rest, "is said", said[from:], "not", want)
			}
		}
	}
}

// wrongNumbersOfLines are none of bytes.
func wrongNumbersOfLines() []string {
	list := append(wrongNumberTexts("64"), "256", "257", "-1", "-0", "+0", "+64", "00", "01", "064", "0064", "0x40", "40h", "$40", "64.0", "6_4", "1e1", "inf", "up", "a", "#", "100000000000000000", "999999999999999999", "1000000000000000000", "18446744073709551680")
	return slices.DeleteFunc(list, func(s string) bool {
		return s == "32" || s == "33" || s == "1" || s == "64" || strings.Trim(s, " ") != s
	})
}

func TestPokeAndPeekOfWrongNumbers(t *testing.T) {
	for _, v := range wrongNumbersOfLines() {
		for _, s := range []string{"peek " + v, "poke " + v + " 64", "poke 64 " + v, "poke " + v + " " + v} {
			checkNoLine(t, s)
		}
	}
	for _, v := range []string{"0", "1", "9", "10", "99", "100", "199", "200", "249", "250", "255"} {
		checkSaid(t, []string{"peek " + v, "poke " + v + " 0", "poke 64 " + v, "peek 64"}, fmt.Sprint("byte ", *cellAt(firstMachine().Memory, numberOf(v))), "ok", "ok", "byte "+v)
	}
}

func numberOf(s string) (v int) {
	fmt.Sscan(s, &v)
	return v
}

func TestPokeAndPeekOfEachSmallNumber(t *testing.T) {
	for v := -40; v <= 600; v++ {
		if v >= 0 && v <= 255 {
			checkSaid(t, []string{fmt.Sprint("poke ", v, " 3"), fmt.Sprint("poke 64 ", v), "peek 64"}, "ok", "ok", fmt.Sprint("byte ", v))
			continue
		}
		checkSaid(t, []string{fmt.Sprint("peek ", v), fmt.Sprint("poke ", v, " 3"), fmt.Sprint("poke 64 ", v), "peek 64"}, "error form", "error form", "error form", "byte 0")
	}
}

func TestPokeAndPeekOfTooFewAndTooManyWords(t *testing.T) {
	for _, s := range []string{"peek", "peek ", "poke", "poke ", "poke 64", "poke 64 ", "peek 64 0", "peek 64 64", "poke 64 1 1", "poke 64 1 x", "peek 64 #", "poke 64 1 #", "64 peek", "64 poke 1", "64 1 poke", "peek peek", "peek peek 64", "poke poke 64 1"} {
		checkNoLine(t, s)
	}
	for _, s := range []string{"peek 64", "poke 64 9"} {
		_, want := ranWritten([]string{s})
		for _, wide := range wideLines(s) {
			checkSaid(t, []string{wide, "peek 64"}, append(want, map[string]string{"peek 64": "byte 0", "poke 64 9": "byte 9"}[s])...)
		}
	}
}

func TestOtherLines(t *testing.T) {
	for _, s := range wrongLines() {
		checkNoLine(t, s)
	}
	for v := range 256 {
		s := string([]byte{byte(v)})
		if s == " " || s == "#" {
			continue
		}
		checkSaid(t, []string{s, s + s, " " + s + " ", "step" + s, s + "step", "step " + s, s + " step"}, slices.Repeat([]string{"error form"}, 7)...)
	}
	for _, s := range []string{times(impl.MaxText, "x"), times(impl.MaxText+1, "x"), times(impl.MaxText, "x "), longText(3 * impl.MaxText), "step" + times(impl.MaxText, "\t"), "peek " + times(impl.MaxText, "0"), "peek " + times(impl.MaxText, "1")} {
		checkSaid(t, []string{s}, "error form")
	}
}

// No line is too long, in a list.
func TestLinesOfManyBytes(t *testing.T) {
	for _, n := range []int{impl.MaxText - 10, impl.MaxText, impl.MaxText + 1, 1 << 20} {
		blanks := times(n, " ")
		checkSaid(t, []string{blanks + "peek 1" + blanks, "peek" + blanks + "2", blanks + "frames" + blanks + "1", "events" + blanks, "poke" + blanks + "64" + blanks + "9", "peek 64", blanks + "tape" + blanks + "0200ffff", blanks + "#" + blanks}, "byte 152", "byte 56", "ok", "events 0", "ok", "byte 9", "blocks 1")
	}
}
