package tests

import (
	"fmt"
	"regexp"
	"slices"
	"strconv"
	"strings"
	"testing"

	"loop.example/g00644/impl"
)

// plainRomWritten is put together by hand.
func plainRomWritten() string {
	return "\xa0\x98\x38\x0f\x00\x90\x00\x67\x00" + times(47, "\x00") + "\x14\x40\x3e\xa0\x77" + times(3, "\x00")
}

// firstMachine is what a console begins with.
func firstMachine() impl.Machine {
	m := newMachine(plainRomWritten())
	m.Deck = impl.Deck{}
	return m
}

// lineForms are patterns of lines, a way to read them that has nothing to do with the program's.
type lineForms struct {
	silent, bare, tape, poke, peek *regexp.Regexp
	acts                           [9]*regexp.Regexp
}

func formsOfLines() lineForms {
	v := "(0|[1-9][0-9]?|1[0-9][0-9]|2[0-4][0-9]|25[0-5])"
	return lineForms{
		silent: regexp.MustCompile(`^ *(#|$)`),
		bare:   regexp.MustCompile("^ *(step|machine|screen|events|code) *$"),
		tape:   regexp.MustCompile("^ *tape +((?:[0-9a-f][0-9a-f])+) *$"),
		poke:   regexp.MustCompile("^ *poke +" + v + " +" + v + " *$"),
		peek:   regexp.MustCompile("^ *peek +" + v + " *$"),
		acts:   actForms(),
	}
}

func verdictWritten(code int) []string {
	if code == impl.OK {
		return []string{"ok"}
	}
	return []string{"error " + codeWordsByHand()[code]}
}

// codeWordsByHand are those that a console can say.
func codeWordsByHand() map[int]string {
	return map[int]string{
		impl.ErrLong: "long", impl.ErrForm: "form", impl.ErrNone: "none", impl.ErrMany: "many",
		impl.ErrSize: "size", impl.ErrEnd: "end", impl.ErrSum: "sum", impl.ErrStopped: "stopped",
	}
}

func eventsWritten(list []impl.Event) []string {
	var lines []string
	for _, e := range list {
		lines = append(lines, fmt.Sprintf("%d %s %d", e.T, eventWords()[e.Kind], e.Value))
	}
	return append(lines, fmt.Sprint("events ", len(list)))
}

func bareWritten(m impl.Machine, word string) (impl.Machine, []string) {
	switch word {
	case "step":
		x, code := laterWritten(m)
		return x, verdictWritten(code)
	case "machine":
		return m, linesWritten(m)
	case "screen":
		return m, screenWritten(m)
	case "events":
		return m, eventsWritten(m.Events)
	}
	return m, listWritten(m.Memory.Rom[:16])
}

func tapedWritten(m impl.Machine, hex string) (impl.Machine, []string) {
	var bytes strings.Builder
	for i := 0; i < len(hex); i += 2 {
		v, _ := strconv.ParseUint(hex[i:i+2], 16, 8)
		bytes.WriteByte(byte(v))
	}
	list, code := tapeWritten(bytes.String())
	if code != impl.OK {
		return m, verdictWritten(code)
	}
	m.Deck = impl.Deck{Pulses: tapePulsesWritten(list...)}
	tapeActWritten(&m, 5)
	return m, []string{fmt.Sprint("blocks ", len(list))}
}

func pokedWritten(m impl.Machine, address, v int) impl.Machine {
	x := copyMachine(m)
	if address > 63 {
		*cellAt(x.Memory, address) = v
	}
	return x
}

// saidWritten is the chapter's sentences for one line.
func saidWritten(forms lineForms, m impl.Machine, s string) (impl.Machine, []string) {
	if forms.silent.MatchString(s) {
		return m, nil
	}
	if a, code := readActWritten(forms.acts, s); code == impl.OK {
		x, code := actWritten(m, a)
		return x, verdictWritten(code)
	}
	if parts := forms.bare.FindStringSubmatch(s); parts != nil {
		return bareWritten(m, parts[1])
	}
	if parts := forms.tape.FindStringSubmatch(s); parts != nil {
		return tapedWritten(m, parts[1])
	}
	if parts := forms.poke.FindStringSubmatch(s); parts != nil {
		address, _ := strconv.Atoi(parts[1])
		v, _ := strconv.Atoi(parts[2])
		return pokedWritten(m, address, v), []string{"ok"}
	}
	if parts := forms.peek.FindStringSubmatch(s); parts != nil {
		address, _ := strconv.Atoi(parts[1])
		return m, []string{fmt.Sprint("byte ", *cellAt(m.Memory, address))}
	}
	return m, []string{"error form"}
}

func ranWritten(lines []string) (impl.Machine, []string) {
	m, forms := firstMachine(), formsOfLines()
	var all []string
	for _, s := range lines {
		x, said := saidWritten(forms, m, s)
		m, all = x, append(all, said...)
	}
	return m, all
}

// asText has a byte 10 behind each line.
func asText(lines []string) string {
	if len(lines) == 0 {
		return ""
	}
	return strings.Join(lines, "\n") + "\n"
}

// isTextOf tells whether a text stands for just these lines, and is not too long.
func isTextOf(text string, lines []string) bool {
	return len(text) <= impl.MaxText && strings.Count(text, "\n") == len(lines)
}

// placeApart tells where two lists begin to differ.
func placeApart(got, want []string) string {
	for i := range max(len(got), len(want)) {
		if i >= len(got) || i >= len(want) || got[i] != want[i] {
			return fmt.Sprintf("from %d on %s, not %s", i, short(got[min(i, len(got)):]), short(want[min(i, len(want)):]))
		}
	}
	return "the same"
}

func checkConsole(t *testing.T, text, want string, wantCode int) {
	t.Helper()
	if s, code := impl.Console(text); s != want || code != wantCode {
		t.Fatalf("Console of %s: %d, not %d; %s", short(text), code, wantCode, placeApart(strings.SplitAfter(s, "\n"), strings.SplitAfter(want, "\n")))
	}
}

// checkTalk says lines to both calls; what they say, and the machine, must be as written.
func checkTalk(t *testing.T, lines []string) (impl.Machine, []string) {
	t.Helper()
	want, wantSaid := ranWritten(lines)
	m, said, code := impl.RunLines(lines)
	checkMachine(t, "RunLines of "+short(lines), m, code, want, impl.OK)
	if !slices.Equal(said, wantSaid) {
		t.Fatalf("RunLines of %s says %s", short(lines), placeApart(said, wantSaid))
	}
	text := asText(lines)
	if isTextOf(text, lines) {
		checkConsole(t, text, asText(wantSaid), impl.OK)
	}
	return m, said
}

// checkSaid asks also for what is written by hand.
func checkSaid(t *testing.T, lines []string, want ...string) impl.Machine {
	t.Helper()
	m, said := checkTalk(t, lines)
	if !slices.Equal(said, want) {
		t.Errorf("RunLines of %s says %s", short(lines), placeApart(said, want))
	}
	return m
}

func checkNoRun(t *testing.T, lines []string, want int) {
	t.Helper()
	m, said, code := impl.RunLines(lines)
	checkMachine(t, fmt.Sprint("RunLines of ", len(lines), " lines"), m, code, impl.Machine{}, want)
	if len(said) != 0 {
		t.Error("RunLines of", len(lines), "lines says", said)
	}
}

func TestPlainRom(t *testing.T) {
	rom := impl.PlainRom()
	if rom != plainRomWritten() {
		t.Fatalf("PlainRom is %x, not %x", rom, plainRomWritten())
	}
	if len(rom) != 64 {
		t.Error("PlainRom is of", len(rom), "bytes")
	}
	for at := range rom {
		isCode := at < 9 || at >= 56 && at < 61
		if !isCode && rom[at] != 0 {
			t.Error("at", at, "stands", rom[at])
		}
	}
	if rom != impl.PlainRom() {
		t.Error("a second PlainRom is another one")
	}
}

// What stands at 0 and at 56 is read back as the instructions that the chapter names.
func TestPlainRomAsCode(t *testing.T) {
	cells := cellsOf(impl.PlainRom())
	want := append([]string{"00 ei", "01 halt", "02 inc 0", "03 ld 7 0", "05 out 0", "07 jp 7 0"}, slices.Repeat([]string{"nop"}, 47)...)
	for at := 9; at < 56; at++ {
		want[at-3] = fmt.Sprintf("%02x nop", at)
	}
	want = append(want, "38 ldn 4 64", "3a inc 6", "3b ei", "3c ret 7", "3d nop", "3e nop", "3f nop")
	if list, code := impl.ListCode(cells); !slices.Equal(list, want) || code != impl.OK {
		t.Error("PlainRom is", list, code)
	}
	if s := assembled("ei", "halt", "inc 0", "ld 7 0", "out 0", "jp 7 0", "@56", "ldn 4 64", "inc 6", "ei", "ret 7"); impl.PlainRom() != s {
		t.Errorf("PlainRom is %x, not %x", impl.PlainRom(), s)
	}
}

func TestMaxLines(t *testing.T) {
	if impl.MaxLines != 60 {
		t.Error("MaxLines is", impl.MaxLines)
	}
}

func TestRunLinesOfNone(t *testing.T) {
	for _, lines := range [][]string{nil, {}, make([]string, 0, 5)} {
		m := checkSaid(t, lines)
		checkMachine(t, "no line", m, impl.OK, firstMachine(), impl.OK)
	}
	first, code := impl.NewMachine(impl.PlainRom(), nil)
	checkMachine(t, "NewMachine", first, code, firstMachine(), impl.OK)
}

// silentLines say nothing.
func silentLines() []string {
	return []string{
		"", " ", "  ", times(1000, " "), times(impl.MaxText, " "), times(2*impl.MaxText, " "),
		"#", "##", "# ", "#step", "# step", "#  machine", " #", "   # frames 6", times(impl.MaxText+5, " ") + "# play",
		"#\x00", "#\t", "#\xff\xfe", "#é", "# " + longText(300), "#" + times(2*impl.MaxText, "x"), "# \n step", "#\nstep",
	}
}

func TestLinesThatSayNothing(t *testing.T) {
	for _, s := range silentLines() {
		m := checkSaid(t, []string{s})
		checkMachine(t, short(s), m, impl.OK, firstMachine(), impl.OK)
		checkSaid(t, []string{s, s, "peek 0", s}, "byte 160")
	}
	checkSaid(t, silentLines())
}

// Where the sign is not the first of the first word it begins no remark.
func TestSignsBehindOthers(t *testing.T) {
	for _, s := range []string{"step #", "step #1", "step # a step", "machine#", "step#", "x#", "x #", "\t#", "\t", "\n", "\r", "\x00", "\x00#", "\n#", "\u00a0", "\u00a0#", "-#", "'#", "peek # 0", "peek 0 #", "play #", "tape #", "tape 00#", "0#", "\v", "\f", "\u2003", "\ufeff#", "＃", "%", ";", "//", "'", "rem", "!"} {
		m := checkSaid(t, []string{s}, "error form")
		checkMachine(t, short(s), m, impl.OK, firstMachine(), impl.OK)
	}
}

// A line that says nothing changes nothing, wherever it stands.
func TestLinesThatSayNothingChangeNothing(t *testing.T) {
	l := lot(1601)
	for _, s := range silentLines() {
		for range 3 {
			lines := l.someLines(12)
			want, wantSaid := ranWritten(lines)
			at := l.below(len(lines) + 1)
			m, said := checkTalk(t, slices.Insert(slices.Clone(lines), at, s))
			checkMachine(t, "with "+short(s), m, impl.OK, want, impl.OK)
			if !slices.Equal(said, wantSaid) {
				t.Fatal("with", short(s), "at", at, placeApart(said, wantSaid))
			}
		}
	}
}

func TestRunLinesOfManyLines(t *testing.T) {
	for _, n := range []int{1, 2, 58, 59, 60} {
		checkSaid(t, slices.Repeat([]string{"peek 1"}, n), slices.Repeat([]string{"byte 152"}, n)...)
		checkSaid(t, slices.Repeat([]string{"x"}, n), slices.Repeat([]string{"error form"}, n)...)
		checkSaid(t, slices.Repeat([]string{""}, n))
	}
	for _, n := range []int{61, 62, 120, 255, 256, 316, impl.MaxList - 1, impl.MaxList} {
		for _, s := range []string{"peek 1", "x", "", "# nothing", "frames 6"} {
			checkNoRun(t, slices.Repeat([]string{s}, n), impl.ErrMany)
		}
	}
	for _, n := range []int{impl.MaxList + 1, impl.MaxList + 60, 3 * impl.MaxList} {
		for _, s := range []string{"peek 1", "x", "", "# nothing"} {
			checkNoRun(t, slices.Repeat([]string{s}, n), impl.ErrLong)
		}
	}
}

// A line counts whether it says something or not.
func TestSixtyOneLinesOfWhichSomeSayNothing(t *testing.T) {
	for silent := range 62 {
		lines := append(slices.Repeat([]string{"peek 1"}, 61-silent), slices.Repeat([]string{" # nothing"}, silent)...)
		checkNoRun(t, lines, impl.ErrMany)
		checkConsole(t, asText(lines), "", impl.ErrMany)
		slices.Reverse(lines)
		checkNoRun(t, lines, impl.ErrMany)
		checkConsole(t, asText(lines), "", impl.ErrMany)
		fewer, said := lines[:60], 0
		for _, s := range fewer {
			if s == "peek 1" {
				said++
			}
		}
		checkSaid(t, fewer, slices.Repeat([]string{"byte 152"}, said)...)
	}
}

// Each field of the machine that comes back is what the lines made of it.
func TestMachineThatComesBack(t *testing.T) {
	tape := "tape " + hexOf(textWritten(blockOf(255, 2)))
	m, said := checkTalk(t, []string{"save", "poke 130 7", "key 3 1 down", "joy 21", tape, "play", "frames 2", "step", "frames 1"})
	if m.Cpu.Regs[0] != 2 || !m.Cpu.Iff || !m.Cpu.Halt || m.Memory.Ram[2][2] != 7 || m.Memory.Ram[1][0] != 2 {
		t.Error("the processor and the memory are", m.Cpu, m.Memory)
	}
	if m.Ports != (impl.Ports{Keys: [8]int{31, 31, 31, 29, 31, 31, 31, 31}, Joy: 21, Border: 2}) {
		t.Error("the ports are", m.Ports)
	}
	if !m.Deck.Plays || m.Deck.Index == 0 || len(m.Deck.Pulses) != 8+2+16*4+1 || m.Frames != 3 {
		t.Error("the deck is", m.Deck, "in frame", m.Frames)
	}
	if m.Saved != snapWritten(newSnap()) || len(m.Events) != 1 || m.Psg == impl.NewPsg() {
		t.Error("saved, noted and heard are", short(m.Saved), m.Events, m.Psg)
	}
	if fmt.Sprint(said) != "[ok ok ok ok blocks 1 ok ok ok ok]" {
		t.Error("said is", said)
	}
}

func TestConsoleOfTextsWithoutAnEnd(t *testing.T) {
	for text, want := range map[string]string{
		"": "", "\n": "", "\n\n\n": "", " ": "", " \n": "", "\n ": "", "#": "", "#\n": "", "#\n#": "",
		"peek 0": "byte 160\n", "peek 0\n": "byte 160\n", "peek 0\n\n": "byte 160\n", "\npeek 0": "byte 160\n", "\n\npeek 0\n\n": "byte 160\n",
		"peek 0\npeek 1": "byte 160\nbyte 152\n", "peek 0\npeek 1\n": "byte 160\nbyte 152\n", "peek 0\n ": "byte 160\n", "peek 0\nx": "byte 160\nerror form\n",
		"x": "error form\n", "x\n\ny": "error form\nerror form\n", "peek 0\r\n": "error form\n", "\r\n": "error form\n", "peek 0\x00": "error form\n",
		"peek\n0": "error form\nerror form\n", "peek 0 # \n": "error form\n", "# peek 0\npeek 0": "byte 160\n", "peek 0\v": "error form\n", "peek 0\u2028peek 1": "error form\n",
		"step\nevents": "ok\nevents 0\n",
	} {
		checkConsole(t, text, want, impl.OK)
	}
}

func TestConsoleOfManyLines(t *testing.T) {
	for _, r := range []struct {
		n    int
		code int
	}{{59, 0}, {60, 0}, {61, impl.ErrMany}, {62, impl.ErrMany}, {316, impl.ErrMany}, {impl.MaxList, impl.ErrMany}, {impl.MaxList + 1, impl.ErrMany}, {9000, impl.ErrMany}} {
		for s, said := range map[string]string{"": "", "#": "", "x": "error form\n", "peek 1": "byte 152\n"} {
			want := times(r.n, said)
			if r.code != impl.OK {
				want = ""
			}
			checkConsole(t, times(r.n, s+"\n"), want, r.code)
			if s != "" {
				checkConsole(t, times(r.n-1, s+"\n")+s, want, r.code)
			}
		}
	}
	// Behind the last end there is a line only if it has a byte.
	checkConsole(t, times(60, "x\n"), times(60, "error form\n"), impl.OK)
	checkConsole(t, times(60, "x\n")+" ", "", impl.ErrMany)
	checkConsole(t, times(60, "x\n")+"#", "", impl.ErrMany)
	checkConsole(t, times(60, "x\n")+"\n", "", impl.ErrMany)
	checkConsole(t, times(59, "x\n")+" ", times(59, "error form\n"), impl.OK)
	checkConsole(t, times(59, "\n")+"peek 1", "byte 152\n", impl.OK)
}

func TestConsoleOfLongTexts(t *testing.T) {
	blanks := times(impl.MaxText-6, " ")
	checkConsole(t, blanks+"peek 1", "byte 152\n", impl.OK)
	checkConsole(t, "peek 1"+blanks, "byte 152\n", impl.OK)
	checkConsole(t, "peek"+blanks+" 1", "byte 152\n", impl.OK)
	checkConsole(t, "peek 1"+blanks[1:]+"\n", "byte 152\n", impl.OK)
	checkConsole(t, "#"+times(impl.MaxText-1, "x"), "", impl.OK)
	checkConsole(t, times(impl.MaxText, "x"), "error form\n", impl.OK)
	checkConsole(t, times(impl.MaxText, " "), "", impl.OK)
	checkConsole(t, times(impl.MaxText, "\n"), "", impl.ErrMany)
	checkConsole(t, longText(impl.MaxText), "", impl.ErrMany)
	for _, n := range []int{impl.MaxText + 1, impl.MaxText + 7, 2 * impl.MaxText} {
		for _, text := range []string{times(n, " "), times(n, "#"), times(n, "\n"), times(n, "x"), longText(n), "peek 1" + times(n-6, " "), "peek 1\n" + times(n-7, " ")} {
			checkConsole(t, text, "", impl.ErrLong)
		}
	}
}

// A byte 10 ends a line of a text; within a line of a list it is a byte as any other.
func TestLinesWithAnEndWithin(t *testing.T) {
	checkSaid(t, []string{"peek 0\n"}, "error form")
	checkSaid(t, []string{"peek 0\npeek 1"}, "error form")
	checkSaid(t, []string{"\n"}, "error form")
	checkSaid(t, []string{"peek\n0"}, "error form")
	checkSaid(t, []string{"peek 0 \n"}, "error form")
	checkSaid(t, []string{"#\npeek 0"})
}
