package tests

import (
	"math"
	"reflect"
	"slices"
	"strconv"
	"strings"
	"testing"

	"loop.example/g00644/impl"
)

// documented are the instructions as the document writes them, each at its number; the wrong ones have no number of their own in a byte.
func documented() []string {
	return []string{
		"nop", "ld A B", "ldn A N", "lda N", "sta N", "alu A B", "alun A N", "inc A", "dec A", "turn A B", "bit A B", "daa",
		"jp A N", "call A N", "ret A", "push A", "pop A", "in N", "out N", "halt", "ei", "di", "ldi",
	}
}

// rightInstr is an instruction with all that the calls tell of it.
type rightInstr struct {
	x     impl.Instr
	bytes []int
	text  string
	time  int
}

func upTo(used bool, n int) []int {
	list := []int{0}
	for v := 1; used && v < n; v++ {
		list = append(list, v)
	}
	return list
}

// rightInstrs are all instructions there are, written out from the document's lines.
func rightInstrs() []rightInstr {
	var list []rightInstr
	for op, line := range documented() {
		hasA, hasB, hasN := strings.Contains(line, "A"), strings.Contains(line, "B"), strings.Contains(line, "N")
		for _, a := range upTo(hasA, 8) {
			for _, b := range upTo(hasB, 8) {
				for _, n := range upTo(hasN, 256) {
					r := rightInstr{x: impl.Instr{Op: op, A: a, B: b, N: n, Len: 1}, bytes: []int{8*op + a}}
					if hasB || hasN {
						r.x.Len = 2
						r.bytes = append(r.bytes, b+n)
					}
					r.text = strings.NewReplacer("A", strconv.Itoa(a), "B", strconv.Itoa(b), "N", strconv.Itoa(n)).Replace(line)
					r.time = wantedTime(strings.Fields(line)[0], a, b)
					list = append(list, r)
				}
			}
		}
	}
	for n := 184; n < 256; n++ {
		list = append(list, rightInstr{impl.Instr{Op: 23, N: n, Len: 1}, []int{n}, "db " + strconv.Itoa(n), 4})
	}
	return list
}

// wantedTime is reckoned by hand from the document's sentence.
func wantedTime(word string, a, b int) int {
	by := func(register, other, pointed int) int {
		if register == 6 {
			return pointed
		}
		return other
	}
	switch word {
	case "nop", "daa", "ret", "halt", "ei", "di":
		return 4
	case "alun", "jp", "call", "push", "pop":
		return 7
	case "lda", "sta", "ldi":
		return 10
	case "in", "out":
		return 11
	case "ld":
		return by(a, 7, 10) + by(b, 0, 3)
	case "ldn":
		return by(a, 7, 10)
	case "alu", "bit":
		return by(b, 7, 10)
	case "inc", "dec":
		return by(a, 4, 10)
	case "turn":
		return by(b, 7, 13)
	}
	panic("no such word: " + word)
}

// sampleInstrs are the right ones whose N stands at an end of a range, so that each kind, and each of its registers, is among them.
func sampleInstrs() []rightInstr {
	return slices.DeleteFunc(rightInstrs(), func(r rightInstr) bool {
		return !slices.Contains([]int{0, 1, 6, 9, 10, 99, 100, 127, 184, 200, 254, 255}, r.x.N)
	})
}

func TestNumbersOfInstructions(t *testing.T) {
	got := []int{
		impl.OpNop, impl.OpLoad, impl.OpSet, impl.OpFrom, impl.OpTo, impl.OpAlu, impl.OpAluN, impl.OpInc, impl.OpDec, impl.OpTurn, impl.OpTest, impl.OpDaa,
		impl.OpJump, impl.OpCall, impl.OpBack, impl.OpPush, impl.OpPop, impl.OpIn, impl.OpOut, impl.OpHalt, impl.OpEi, impl.OpDi, impl.OpCopy, impl.OpWrong,
	}
	for want, op := range got {
		if op != want {
			t.Error("the instruction of number", want, "has", op)
		}
	}
	if n := len(rightInstrs()); n != 9590 {
		t.Error("there are", n, "instructions")
	}
}

// decodedPair goes by the document's lines: a letter that does not stand in one is not looked at.
func decodedPair(first, second int) impl.Instr {
	op := first / 8
	if op > 22 {
		return impl.Instr{Op: 23, N: first, Len: 1}
	}
	line := documented()[op]
	x := impl.Instr{Op: op, Len: 1}
	if strings.Contains(line, "A") {
		x.A = first % 8
	}
	if strings.Contains(line, "B") {
		x.B, x.Len = second%8, 2
	}
	if strings.Contains(line, "N") {
		x.N, x.Len = second, 2
	}
	return x
}

func TestDecodeOfAllPairs(t *testing.T) {
	for first := range 256 {
		for second := range 256 {
			want := decodedPair(first, second)
			if x, code := impl.Decode([]int{first, second}); x != want || code != impl.OK || !impl.InstrOK(x) {
				t.Error("Decode of", first, second, "is", x, code, "not", want)
			}
		}
	}
}

func TestDecodeOfOtherLengths(t *testing.T) {
	for n, want := range map[int]int{
		0: impl.ErrSize, 1: impl.ErrSize, 3: impl.ErrSize, 4: impl.ErrSize, 256: impl.ErrSize, impl.MaxList - 1: impl.ErrSize, impl.MaxList: impl.ErrSize,
		impl.MaxList + 1: impl.ErrLong, impl.MaxList + 2: impl.ErrLong, impl.MaxText + 1: impl.ErrLong, 2 * impl.MaxText: impl.ErrLong,
	} {
		for _, v := range []int{0, 9, 255, -1, 256} {
			if x, code := impl.Decode(slices.Repeat([]int{v}, n)); x != (impl.Instr{}) || code != want {
				t.Error("Decode of", n, "times", v, "is", x, code)
			}
		}
	}
	if x, code := impl.Decode(nil); x != (impl.Instr{}) || code != impl.ErrSize {
		t.Error("Decode of nil is", x, code)
	}
}

func TestDecodeOfNoBytes(t *testing.T) {
	for _, v := range append(noBytes(), -8, -2, 258, 1<<32, 1<<32+9, math.MinInt+1) {
		for other := range 256 {
			for _, bytes := range [][]int{{v, other}, {other, v}, {v, v}} {
				if x, code := impl.Decode(bytes); x != (impl.Instr{}) || code != impl.ErrRange {
					t.Error("Decode of", bytes, "is", x, code)
				}
			}
		}
	}
}

// wantBadInstr asks all calls that take an instruction to say that it is not right, with all else zero.
func wantBadInstr(t *testing.T, x impl.Instr) {
	t.Helper()
	if impl.InstrOK(x) {
		t.Error("InstrOK of", x)
	}
	if bytes, code := impl.Encode(x); len(bytes) != 0 || code != impl.ErrBad {
		t.Error("Encode of", x, "is", bytes, code)
	}
	if text, code := impl.InstrText(x); text != "" || code != impl.ErrBad {
		t.Error("InstrText of", x, "is", text, code)
	}
	if time, code := impl.TimeOf(x); time != 0 || code != impl.ErrBad {
		t.Error("TimeOf of", x, "is", time, code)
	}
}

// One number of an instruction is set to all that lies near its bounds; only what is listed is right.
func TestInstrOKAtItsBounds(t *testing.T) {
	right := map[impl.Instr]int{}
	for _, r := range rightInstrs() {
		right[r.x]++
	}
	far := []int{math.MinInt, -1 << 32, -256, -8, -2, -1, 0, 1, 2, 3, 6, 7, 8, 9, 23, 24, 31, 63, 64, 182, 183, 184, 185, 254, 255, 256, 257, 511, 1 << 32, 1<<32 + 1, math.MaxInt}
	for _, r := range sampleInstrs() {
		for _, v := range far {
			var list [5]impl.Instr
			for i := range list {
				list[i] = r.x
			}
			list[0].Op, list[1].A, list[2].B, list[3].N, list[4].Len = v, v, v, v, v
			for _, x := range list {
				if right[x] == 0 {
					wantBadInstr(t, x)
				} else if !impl.InstrOK(x) {
					t.Error("InstrOK of", x, "is false")
				}
			}
		}
	}
}

func TestInstrOKOfManyNumbers(t *testing.T) {
	right := map[impl.Instr]int{}
	for _, r := range rightInstrs() {
		right[r.x]++
	}
	for op := -2; op <= 33; op++ {
		for _, a := range []int{-1, 0, 1, 6, 7, 8} {
			for _, b := range []int{-1, 0, 1, 6, 7, 8} {
				for _, n := range []int{-1, 0, 1, 183, 184, 255, 256} {
					for length := -1; length <= 3; length++ {
						x := impl.Instr{Op: op, A: a, B: b, N: n, Len: length}
						if right[x] == 0 {
							wantBadInstr(t, x)
						} else if !impl.InstrOK(x) {
							t.Error("InstrOK of", x, "is false")
						}
					}
				}
			}
		}
	}
}

func TestEncodeTextAndTimeOfAll(t *testing.T) {
	for _, r := range rightInstrs() {
		if !impl.InstrOK(r.x) {
			t.Error("InstrOK of", r.x, "is false")
		}
		if bytes, code := impl.Encode(r.x); !reflect.DeepEqual(bytes, r.bytes) || code != impl.OK {
			t.Error("Encode of", r.text, "is", bytes, code, "not", r.bytes)
		}
		if text, code := impl.InstrText(r.x); text != r.text || code != impl.OK {
			t.Error("InstrText of", r.x, "is", text, code, "not", r.text)
		}
		if time, code := impl.TimeOf(r.x); time != r.time || code != impl.OK {
			t.Error("TimeOf of", r.text, "is", time, code, "not", r.time)
		}
	}
}

// The numbers that are no registers have no time of what h points to, though they are 6.
func TestTimeAtRegisterSix(t *testing.T) {
	for text, want := range map[string]int{
		"ld 6 0": 10, "ld 0 6": 10, "ld 6 6": 13, "ld 7 5": 7, "ldn 6 6": 10, "ldn 5 6": 7, "lda 6": 10, "sta 6": 10,
		"alu 6 6": 10, "alu 6 0": 7, "alu 0 6": 10, "alun 6 6": 7, "inc 6": 10, "inc 5": 4, "dec 6": 10, "dec 7": 4,
		"turn 6 6": 13, "turn 6 0": 7, "turn 0 6": 13, "bit 6 6": 10, "bit 6 0": 7, "bit 0 6": 10, "daa": 4,
		"jp 6 6": 7, "call 6 6": 7, "call 7 6": 7, "ret 6": 4, "ret 7": 4, "push 6": 7, "push 0": 7, "pop 6": 7, "pop 0": 7,
		"in 6": 11, "out 6": 11, "halt": 4, "ei": 4, "di": 4, "ldi": 10, "db 190": 4, "db 255": 4,
	} {
		x, code := impl.ReadInstr(text)
		if code != impl.OK {
			t.Error("ReadInstr of", text, "is", code)
		}
		if time, code := impl.TimeOf(x); time != want || code != impl.OK {
			t.Error("TimeOf of", text, "is", time, code, "not", want)
		}
	}
}

func TestReadInstrWithBlanks(t *testing.T) {
	for _, r := range sampleInstrs() {
		wide := strings.ReplaceAll(r.text, " ", "   ")
		padded := strings.Repeat(" ", impl.MaxText-len(wide))
		for _, s := range []string{r.text, " " + r.text, r.text + " ", "  " + r.text + "    ", wide, "   " + wide + "  "} {
			if x, code := impl.ReadInstr(s); x != r.x || code != impl.OK {
				t.Errorf("ReadInstr of %q is %v %d", s, x, code)
			}
		}
		if r.x.N > 1 {
			continue
		}
		for _, s := range []string{padded + wide, wide + padded} {
			if x, code := impl.ReadInstr(s); x != r.x || code != impl.OK {
				t.Error("ReadInstr of", r.text, "with blanks up to MaxText is", x, code)
			}
		}
		if i := strings.Index(wide, " "); i >= 0 {
			if x, code := impl.ReadInstr(wide[:i] + padded + wide[i:]); x != r.x || code != impl.OK {
				t.Error("ReadInstr of", r.text, "with blanks between up to MaxText is", x, code)
			}
		}
	}
}

func wantForm(t *testing.T, s string) {
	t.Helper()
	if x, code := impl.ReadInstr(s); x != (impl.Instr{}) || code != impl.ErrForm {
		t.Errorf("ReadInstr of %q is %v %d", s, x, code)
	}
}

// spoilt are texts for a number v that are no text of a number of its bounds.
func spoilt(v string) []string {
	return []string{
		"0" + v, "00" + v, "-" + v, "+" + v, "--" + v, v + "-", v + "+", v + ".", v + ",", v + "h", v + "_", "0x" + v, "$" + v, "'" + v + "'",
		v + "e0", v + ".0", "-0", "-1", "256", "257", "999", "1000", "4294967296", "999999999999999999", "1000000000000000000", "9223372036854775808",
		"18446744073709551616", "18446744073709551617", "18446744073709551800", "00000000000000000000" + v, "x", "A", "b", "é", "１", "\x00", v + "\x00", "\t" + v, v + "\t", v + "\n", v + "\r", "\u00a0" + v, v + "\xff",
	}
}

func TestReadInstrOfSpoiltNumbers(t *testing.T) {
	for _, r := range sampleInstrs() {
		words := strings.Fields(r.text)
		for i := 1; i < len(words); i++ {
			for _, v := range spoilt(words[i]) {
				other := slices.Clone(words)
				other[i] = v
				wantForm(t, strings.Join(other, " "))
			}
			wantForm(t, strings.Join(slices.Delete(slices.Clone(words), i, i+1), " "))
		}
		for _, v := range []string{"0", "1", "7", "200", words[0], "x"} {
			wantForm(t, r.text+" "+v)
			wantForm(t, r.text+"  "+v+" ")
			wantForm(t, v+" "+r.text)
		}
	}
}

func TestReadInstrOfNumbersOutOfBounds(t *testing.T) {
	lines := append(documented(), "db N")
	for _, line := range lines {
		for _, v := range []string{"8", "9", "10", "255", "-1", "-7"} {
			for _, letter := range []string{"A", "B"} {
				if s := strings.Replace(line, letter, v, 1); s != line {
					wantForm(t, strings.NewReplacer("A", "1", "B", "1", "N", "200").Replace(s))
				}
			}
		}
		if strings.Contains(line, "N") {
			for _, v := range []string{"-1", "-255", "256", "300", "65535"} {
				wantForm(t, strings.NewReplacer("A", "1", "N", v).Replace(line))
			}
		}
	}
	for n := -1; n < 184; n++ {
		wantForm(t, "db "+strconv.Itoa(n))
	}
}

func TestReadInstrOfSpoiltWords(t *testing.T) {
	for _, line := range append(documented(), "db N") {
		s := strings.NewReplacer("A", "1", "B", "1", "N", "200").Replace(line)
		word, rest, _ := strings.Cut(s, " ")
		for _, other := range []string{
			strings.ToUpper(word), strings.ToUpper(word[:1]) + word[1:], word + "x", "x" + word, word + ",", word + ":", word + "\t", "\t" + word, word + "\x00",
			"#" + word, word[:1] + " " + word[1:], word + word, word[:1], "\ufeff" + word, word + "\u00a0", "",
		} {
			wantForm(t, strings.TrimSuffix(other+" "+rest, " "))
			wantForm(t, other+" "+rest)
		}
		wantForm(t, strings.ReplaceAll(s, " ", "")+" 1")
		for _, end := range []string{"\n", "\r", "\t", "\x00", ";", " ;", " #"} {
			wantForm(t, s+end)
		}
		if rest != "" {
			wantForm(t, strings.ReplaceAll(s, " ", ""))
			wantForm(t, strings.ReplaceAll(s, " ", "\t"))
			wantForm(t, strings.Replace(s, " ", ",", 1))
			wantForm(t, strings.Replace(s, " ", "\n", 1))
			wantForm(t, word)
		}
	}
	for _, s := range []string{"", " ", "    ", strings.Repeat(" ", impl.MaxText), "what", "what 1", "0", "1 2", "-", "wrong 200", "load 0 1", "set 0 1", "NOP", "ld A B", "db N", "é", "\x00", "\xff"} {
		wantForm(t, s)
	}
}

func TestReadInstrOfLongTexts(t *testing.T) {
	for n, want := range map[int]int{impl.MaxText - 1: impl.ErrForm, impl.MaxText: impl.ErrForm, impl.MaxText + 1: impl.ErrLong, impl.MaxText + 3: impl.ErrLong, 2 * impl.MaxText: impl.ErrLong} {
		for _, s := range []string{longText(n), strings.Repeat(" ", n), strings.Repeat("1", n), "inc " + strings.Repeat("1", n-4), strings.Repeat("a ", n)[:n]} {
			if x, code := impl.ReadInstr(s); x != (impl.Instr{}) || code != want {
				t.Error("ReadInstr of", n, "bytes is", x, code)
			}
		}
	}
	for _, s := range []string{"nop", "ld 0 0", "inc 1", "db 200"} {
		padded := s + strings.Repeat(" ", impl.MaxText-len(s))
		if _, code := impl.ReadInstr(padded); code != impl.OK {
			t.Error("ReadInstr of", s, "of MaxText bytes is", code)
		}
		for _, long := range []string{padded + " ", " " + padded, padded + padded} {
			if x, code := impl.ReadInstr(long); x != (impl.Instr{}) || code != impl.ErrLong {
				t.Error("ReadInstr of", s, "of more than MaxText bytes is", x, code)
			}
		}
	}
}

func TestArgumentsOfDecodeStay(t *testing.T) {
	for first := -1; first <= 256; first++ {
		room := []int{first, 255, behindEnd, behindEnd}
		impl.Decode(room[:2])
		impl.Decode(room[:1])
		impl.Decode(room[:0])
		if want := []int{first, 255, behindEnd, behindEnd}; !reflect.DeepEqual(room, want) {
			t.Fatal("Decode leaves", room, "of", want)
		}
	}
}

func TestAnswersOfEncodeShareNothing(t *testing.T) {
	list := rightInstrs()
	answers := make([][]int, len(list))
	for i, r := range list {
		answers[i], _ = impl.Encode(r.x)
	}
	for i, r := range list {
		if !reflect.DeepEqual(answers[i], r.bytes) {
			t.Fatal("the answer for", r.text, "became", answers[i])
		}
		wide := answers[i][:cap(answers[i])]
		for k := range wide {
			wide[k] = -5
		}
		if again, code := impl.Encode(r.x); !reflect.DeepEqual(again, r.bytes) || code != impl.OK {
			t.Fatal("Encode of", r.text, "is", again, code, "once its first answer is written to")
		}
	}
}
