package tests

import (
	"fmt"
	"regexp"
	"slices"
	"strconv"
	"strings"
	"testing"

	"loop.example/g00644/impl"
)

// actTextWritten is the chapter's sentence, act by act.
func actTextWritten(a impl.Act) string {
	switch a.Kind {
	case 1:
		if a.Down {
			return fmt.Sprint("key ", a.A, " ", a.B, " down")
		}
		return fmt.Sprint("key ", a.A, " ", a.B, " up")
	case 2:
		return fmt.Sprint("joy ", a.A)
	case 6:
		return fmt.Sprint("frames ", a.A)
	}
	return []string{3: "play", 4: "stop", 5: "rewind", 7: "save", 8: "load"}[a.Kind]
}

func checkReadAct(t *testing.T, s string, want impl.Act) {
	t.Helper()
	if a, code := impl.ReadAct(s); a != want || code != impl.OK {
		t.Errorf("ReadAct of %s is %v %d, not %v", short(s), a, code, want)
	}
}

// checkNoAct asks for a code, with all else zero.
func checkNoAct(t *testing.T, s string, want int) {
	t.Helper()
	if a, code := impl.ReadAct(s); a != (impl.Act{}) || code != want {
		t.Errorf("ReadAct of %s is %v %d, not %d", short(s), a, code, want)
	}
}

func TestActTextByHand(t *testing.T) {
	for s, a := range map[string]impl.Act{
		"key 0 0 up": {Kind: impl.AcKey}, "key 7 4 down": {Kind: impl.AcKey, A: 7, B: 4, Down: true}, "key 2 1 up": {Kind: impl.AcKey, A: 2, B: 1},
		"joy 0": {Kind: impl.AcJoy}, "joy 31": {Kind: impl.AcJoy, A: 31}, "play": {Kind: impl.AcPlay}, "stop": {Kind: impl.AcStop},
		"rewind": {Kind: impl.AcRewind}, "frames 0": {Kind: impl.AcFrames}, "frames 6": {Kind: impl.AcFrames, A: 6}, "save": {Kind: impl.AcSave}, "load": {Kind: impl.AcLoad},
	} {
		if text, code := impl.ActText(a); text != s || code != impl.OK {
			t.Errorf("ActText of %v is %q %d, not %q", a, text, code, s)
		}
		checkReadAct(t, s, a)
	}
}

func TestActTextOfEach(t *testing.T) {
	for _, a := range rightActs() {
		if text, code := impl.ActText(a); text != actTextWritten(a) || code != impl.OK {
			t.Errorf("ActText of %v is %q %d, not %q", a, text, code, actTextWritten(a))
		}
	}
}

func TestActTextOfWrongOnes(t *testing.T) {
	for _, a := range wrongActs() {
		if text, code := impl.ActText(a); text != "" || code != impl.ErrBad {
			t.Errorf("ActText of %v is %q %d", a, text, code)
		}
	}
}

// All small numbers in each place: an act has a text if it is right.
func TestActTextOfSmallNumbers(t *testing.T) {
	right := rightActs()
	for kind := -2; kind <= 11; kind++ {
		for a := -2; a <= 34; a++ {
			for b := -2; b <= 9; b++ {
				for _, down := range []bool{false, true} {
					act := impl.Act{Kind: kind, A: a, B: b, Down: down}
					want, wantCode := "", impl.ErrBad
					if slices.Contains(right, act) {
						want, wantCode = actTextWritten(act), impl.OK
					}
					if text, code := impl.ActText(act); text != want || code != wantCode {
						t.Errorf("ActText of %v is %q %d, not %q", act, text, code, want)
					}
				}
			}
		}
	}
}

// placesOfBlanks are where one may stand one more: ahead, behind, and where one stands.
func placesOfBlanks(s string) []int {
	places := []int{0, len(s)}
	for i := range s {
		if s[i] == ' ' {
			places = append(places, i)
		}
	}
	return places
}

func TestReadActWithMoreBlanks(t *testing.T) {
	for _, a := range rightActs() {
		s := actTextWritten(a)
		for _, wide := range []string{s, "  " + s + "   ", strings.ReplaceAll(s, " ", "    "), " " + strings.ReplaceAll(s, " ", "  ") + " "} {
			checkReadAct(t, wide, a)
		}
		for _, place := range placesOfBlanks(s) {
			for _, n := range []int{1, 2, 17, impl.MaxText - len(s)} {
				checkReadAct(t, s[:place]+times(n, " ")+s[place:], a)
			}
		}
	}
}

func TestReadActWithABlankLess(t *testing.T) {
	for _, a := range rightActs() {
		s := actTextWritten(a)
		for _, place := range placesOfBlanks(s)[2:] {
			checkNoAct(t, s[:place]+s[place+1:], impl.ErrForm)
		}
		checkNoAct(t, strings.ReplaceAll(s, " ", "")+"x", impl.ErrForm)
	}
}

// A blank within a word makes two of it; within a number, too.
func TestReadActWithABlankWithin(t *testing.T) {
	for _, a := range rightActs() {
		s := actTextWritten(a)
		for i := 1; i < len(s); i++ {
			if s[i] != ' ' && s[i-1] != ' ' {
				checkNoAct(t, s[:i]+" "+s[i:], impl.ErrForm)
			}
		}
	}
}

// Each other byte in each place, for a byte and between two.
func TestReadActWithOtherSigns(t *testing.T) {
	right := map[string]impl.Act{}
	for _, a := range rightActs() {
		right[actTextWritten(a)] = a
	}
	for s := range right {
		for i := range len(s) + 1 {
			for v := range 256 {
				sign := string([]byte{byte(v)})
				for _, spoilt := range []string{s[:i] + sign + s[i:], s[:i] + sign + s[min(i+1, len(s)):]} {
					if a, isOne := right[strings.Join(strings.FieldsFunc(spoilt, func(r rune) bool { return r == ' ' }), " ")]; isOne {
						checkReadAct(t, spoilt, a)
					} else {
						checkNoAct(t, spoilt, impl.ErrForm)
					}
				}
			}
		}
	}
}

func TestReadActWithOtherBlanks(t *testing.T) {
	for _, a := range rightActs() {
		s := actTextWritten(a)
		for _, blank := range []string{"\t", "\n", "\r", "\v", "\f", "\x00", "\u00a0", "\u2003", "\u3000", "\ufeff", "_", ",", ".", "-"} {
			for _, place := range placesOfBlanks(s) {
				checkNoAct(t, s[:place]+blank+s[place:], impl.ErrForm)
			}
			if other := strings.ReplaceAll(s, " ", blank); other != s {
				checkNoAct(t, other, impl.ErrForm)
			}
		}
	}
}

func TestReadActWithCapitals(t *testing.T) {
	for _, a := range rightActs() {
		s := actTextWritten(a)
		checkNoAct(t, strings.ToUpper(s), impl.ErrForm)
		for i := range s {
			if s[i] >= 'a' {
				checkNoAct(t, s[:i]+strings.ToUpper(s[i:i+1])+s[i+1:], impl.ErrForm)
			}
		}
	}
}

// wrongNumberTexts are for a number v: none of them is a text of a number that any act has, or of a number at all.
func wrongNumberTexts(v string) []string {
	list := spoilt(v)
	for _, digits := range []int{17, 18, 19, 20, 30} {
		list = append(list, times(digits-len(v), "0")+v, times(digits-1, "0")+"0", "1"+times(digits-1, "0"), times(digits, "9"), times(digits, "1"))
	}
	return append(list, "٣", "３", "²", "1_0", "0b1", "0o7", "1e1", "1.", ".1", "--1", "+0", "-", "+", "32", "33", "-2", "-31", "4294967297", "9223372036854775807", "9223372036854775809", "18446744073709551619", "36893488147419103233")
}

func TestReadActOfWrongNumbers(t *testing.T) {
	for _, a := range rightActs() {
		words := strings.Fields(actTextWritten(a))
		for i, word := range words {
			if _, err := strconv.Atoi(word); err != nil {
				continue
			}
			for _, v := range wrongNumberTexts(word) {
				other := slices.Clone(words)
				other[i] = v
				checkNoAct(t, strings.Join(other, " "), impl.ErrForm)
			}
		}
	}
}

func TestReadActOfEachSmallNumber(t *testing.T) {
	for v := -40; v <= 300; v++ {
		for line, most := range map[string]int{"key N 0 up": 7, "key N 4 down": 7, "key 0 N up": 4, "key 7 N down": 4, "joy N": 31, "frames N": 6} {
			s := strings.Replace(line, "N", strconv.Itoa(v), 1)
			a, code := impl.ReadAct(s)
			if v < 0 || v > most {
				checkNoAct(t, s, impl.ErrForm)
			} else if code != impl.OK || actTextWritten(a) != s {
				t.Error("ReadAct of", s, "is", a, code)
			}
		}
	}
}

func TestReadActOfOtherWords(t *testing.T) {
	words := []string{"", "go", "plays", "played", "pla", "stopped", "sto", "rewin", "rewinds", "saves", "sav", "loads", "loa", "frame", "framess", "keys", "ke", "joys", "jo", "down", "up", "ok", "error", "step", "machine", "screen", "events", "code", "tape", "poke", "peek", "#", "#play", "0", "1", "-", "db", "nop", "halt", "é"}
	for _, word := range words {
		for _, rest := range []string{"", " 0", " 1 1", " 2 1 down", " 2 1 up", " down", " 0 0 0 up"} {
			checkNoAct(t, word+rest, impl.ErrForm)
		}
	}
	for _, way := range []string{"left", "downs", "dow", "own", "u", "p", "ups", "Down", "UP", "0", "1", "true", "false", "key", "upup", "downup", "down,", "#"} {
		checkNoAct(t, "key 2 1 "+way, impl.ErrForm)
	}
	for _, s := range []string{"down key 2 1", "key down 2 1", "key 2 down 1", "2 key 1 up", "2 1 key up", "2 1 up key", "0 joy", "3 frames", "key up up up", "key 1 up up", "joy up", "frames down", "joy joy", "key key key key"} {
		checkNoAct(t, s, impl.ErrForm)
	}
}

// Each word is left out and each is said twice; and behind all of them stands one more.
func TestReadActOfTooFewAndTooManyWords(t *testing.T) {
	for _, a := range rightActs() {
		words := strings.Fields(actTextWritten(a))
		for i := range words {
			checkNoAct(t, strings.Join(slices.Delete(slices.Clone(words), i, i+1), " "), impl.ErrForm)
			checkNoAct(t, strings.Join(slices.Insert(slices.Clone(words), i, words[i]), " "), impl.ErrForm)
			checkNoAct(t, strings.Join(words[:i], " "), impl.ErrForm)
		}
		for _, more := range []string{"0", "1", "up", "down", "play", "x", "#", "\x00", "-"} {
			checkNoAct(t, actTextWritten(a)+" "+more, impl.ErrForm)
			checkNoAct(t, more+" "+actTextWritten(a), impl.ErrForm)
		}
	}
}

func TestReadActOfLongTexts(t *testing.T) {
	for _, n := range []int{impl.MaxText - 1, impl.MaxText} {
		for _, s := range []string{longText(n), times(n, " "), times(n, "1"), times(n, "a"), times(n/2, "a "), "joy " + times(n-4, "0"), "joy " + times(n-4, "1")} {
			checkNoAct(t, s, impl.ErrForm)
		}
	}
	for _, n := range []int{impl.MaxText + 1, impl.MaxText + 2, 2 * impl.MaxText} {
		for _, s := range []string{longText(n), times(n, " "), times(n, "1"), times(n, "a")} {
			checkNoAct(t, s, impl.ErrLong)
		}
		for _, a := range rightActs() {
			s := actTextWritten(a)
			for _, place := range placesOfBlanks(s) {
				checkNoAct(t, s[:place]+times(n-len(s), " ")+s[place:], impl.ErrLong)
			}
		}
	}
}

// actForms are the texts of acts as patterns, a way to read them that has nothing to do with the program's.
func actForms() [9]*regexp.Regexp {
	var list [9]*regexp.Regexp
	for kind, form := range [9]string{1: "key +([0-7]) +([0-4]) +(up|down)", 2: "joy +([0-9]|[12][0-9]|3[01])", 3: "play", 4: "stop", 5: "rewind", 6: "frames +([0-6])", 7: "save", 8: "load"} {
		list[kind] = regexp.MustCompile("^ *" + form + " *$")
	}
	return list
}

func readActWritten(forms [9]*regexp.Regexp, s string) (impl.Act, int) {
	for kind := 1; kind <= 8; kind++ {
		parts := forms[kind].FindStringSubmatch(s)
		if parts == nil {
			continue
		}
		a := impl.Act{Kind: kind}
		if len(parts) > 1 {
			a.A, _ = strconv.Atoi(parts[1])
		}
		if len(parts) > 3 {
			a.B, _ = strconv.Atoi(parts[2])
			a.Down = parts[3] == "down"
		}
		return a, impl.OK
	}
	return impl.Act{}, impl.ErrForm
}

func TestReadActOfMixedTexts(t *testing.T) {
	l := lot(1520)
	forms := actForms()
	words := []string{"key", "joy", "play", "stop", "rewind", "frames", "save", "load", "up", "down", "0", "1", "4", "5", "6", "7", "8", "10", "31", "32", "00", "-1", "x"}
	acts := rightActs()
	read := 0
	for range 60000 {
		s := actTextWritten(acts[l.below(len(acts))])
		if l.below(2) == 0 {
			list := strings.Fields(s)
			list[l.below(len(list))] = words[l.below(len(words))]
			s = strings.Join(list, times(1+l.below(2), " "))
		}
		if l.below(3) == 0 {
			i := l.below(len(s))
			s = s[:i] + []string{"", " ", "  ", "0", "1", "-", "\t", "p"}[l.below(8)] + s[i:]
		}
		if l.below(4) == 0 {
			i := l.below(len(s))
			s = s[:i] + s[i+1:]
		}
		want, wantCode := readActWritten(forms, s)
		if a, code := impl.ReadAct(s); a != want || code != wantCode {
			t.Fatalf("ReadAct of %q is %v %d, not %v %d", s, a, code, want, wantCode)
		}
		if wantCode == impl.OK {
			read++
		}
	}
	if read < 10000 || read > 50000 {
		t.Error("of 60000 texts", read, "are acts")
	}
}

func TestReadActOfAFewWords(t *testing.T) {
	forms := actForms()
	words := []string{"key", "joy", "play", "frames", "load", "up", "down", "0", "4", "7", "31", "-0", "01"}
	var try func(s string, left int)
	try = func(s string, left int) {
		want, wantCode := readActWritten(forms, s)
		if a, code := impl.ReadAct(s); a != want || code != wantCode {
			t.Fatalf("ReadAct of %q is %v %d, not %v %d", s, a, code, want, wantCode)
		}
		for _, word := range words {
			if left > 0 {
				try(s+" "+word, left-1)
			}
		}
	}
	try("", 5)
}
